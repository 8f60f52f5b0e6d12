/-
  The laws of DigitSum, DigitProduct, DigitRoot, ProductEnd and DigitAtPlace.
-/
import Derived.Test.YtdgdjgefjhkpbaaDoorDiSum
import Derived.Test.YtdgdjgefjhkpbaaDoorDiNap
namespace Go.Proofs.YtdgdjgefjhkpbaaDoor
open Go.RowKit

theorem itr_bd {f : Int → Int} (hf : Lessens f) {n : Int} (h0 : 0 ≤ n) : ∀ k : Nat, (∀ j, j < k → 9 < itr f n j) → 0 ≤ itr f n k ∧ itr f n k + (k : Int) ≤ n := by
  intro k
  induction k with
  | zero => intro _; exact ⟨h0, by simp [itr]⟩
  | succ k ih =>
    intro h
    have h1 := ih (fun j hj => h j (by omega))
    have h2 := h k (by omega)
    have h3 := hf.lt (itr f n k) (by omega)
    have h4 := hf.nn (itr f n k) h1.1
    exact ⟨h4, by rw [itr]; omega⟩
set_option maxHeartbeats 1000000 in
theorem endOf_yes (n : Int) (f : Int → Int) (g : Nat) (w : World) (h : nuB n = true) (hl : Lessens f) (eg : ∀ args w, (callFunc g args).run Tryd.prog w = .ok (.enter g args) w)
    (hf : ∀ (x : Int) (W : World), 0 ≤ x → x ≤ 1000000000000 → Below w.heap.size w W → Calls Tryd.prog g #[.int .i64 x] W fun e w' => e = .returned (.int .i64 (f x)) ∧ Below W.heap.size W w') :
    Calls Tryd.prog 27 #[.int .i64 n, .func (.func g) #[] #[]] w fun e w' => (∃ e2 t : Int, e = .returned (.tuple #[.int .i64 e2, .int .i64 t, .bool true]) ∧ EndIs f n e2 t) ∧ Below w.heap.size w w' := by
  have HL := Lib.hid hl
  have HF := Lib.hid hf
  obtain ⟨h0, h1⟩ := (nuB_iff n).1 h
  clear hf hl
  go_enter Tryd.func27, Tryd.ntmps27
  go_wp2_with (go_at_call 32; refine (isWritable_any _ _).mono ?_; rintro e w' ⟨rfl, rfl⟩)
  go_loopw [0, 7] (fun nv tv wr => ∃ (k : Nat) (x : Int), nv = .int .i64 x ∧ tv = .int .i64 k ∧ 0 ≤ x ∧ x + (k : Int) ≤ 1000000000000 ∧ Hid (x = itr f n k ∧ ∀ j, j < k → 9 < itr f n j) ∧ Below w.heap.size w wr) (fun nv _ _ => (intOf nv).toNat)
  case atStart => exact ⟨0, n, rfl, rfl, h0, by simpa using h1, ⟨rfl, fun j hj => by omega⟩, Below.refl _ _⟩
  case round =>
    obtain ⟨k, x, rfl, rfl, hx0, hx1, HK, hb⟩ := hrel
    by_cases hlt : 9 < x
    · have hc := HF.out x wr hx0 (by omega) hb
      have HC := Lib.hid hc
      have hy0 := HL.out.nn x hx0
      have hy1 := HL.out.lt x (by omega)
      have HK' : Hid (f x = itr f n (k + 1) ∧ ∀ j, j < k + 1 → 9 < itr f n j) := ⟨by rw [itr, ← HK.out.1], fun j hj => by
        by_cases e : j = k
        · subst e; rw [← HK.out.1]; exact hlt
        · exact HK.out.2 j (by omega)⟩
      obtain ⟨y, hy⟩ : ∃ y, f x = y := ⟨_, rfl⟩
      rw [hy] at HC HK' hy0 hy1
      clear hc hy
      go_wp2_with (go_at_fn g; refine HC.out.mono ?_; rintro e w1 ⟨rfl, b1⟩)
      go_roundw
      case rel => exact ⟨k + 1, y, rfl, by go_num, hy0, by omega, HK', hb.trans (b1.mono hb.size)⟩
      case measure => simp [intOf]; omega
    · have HE : Hid (EndIs f n x (k : Int)) := ⟨k, rfl, HK.out.1, by omega, HK.out.2⟩
      go_wp2
      go_ret3
      exact ⟨⟨x, (k : Int), rfl, HE.out⟩, hb⟩
theorem endOf_no (n : Int) (v : Value) (w : World) (h : nuB n = false) :
    Calls Tryd.prog 27 #[.int .i64 n, v] w fun e w' => e = .returned (.tuple #[.int .i64 0, .int .i64 0, .bool false]) ∧ Below w.heap.size w w' := by
  go_enter Tryd.func27, Tryd.ntmps27
  go_wp2_with (go_at_call 32; refine (isWritable_any _ _).mono ?_; rintro e w' ⟨rfl, rfl⟩)
  go_ret3
  exact ⟨rfl, Below.refl _ _⟩
/-- What DigitSum answers. -/
def DigitSumA (n : Int) : Int := if nuB n = true then nsum n else 0
theorem iDigitSum_any (n : Int) (w : World) (htab : Tab w) :
    Calls Tryd.prog 11 #[.int .i64 n] w fun e w' => e = .returned (.tuple #[.int .i64 (DigitSumA n), .bool (nuB n)]) ∧ Below w.heap.size w w' := by
  cases h : nuB n with
  | true =>
    obtain ⟨h0, h1⟩ := (nuB_iff n).1 h
    have HZ : Hid (nsum n = DigitSumA n) := by show _ = _; unfold DigitSumA; rw [if_pos h]
    have HF := Lib.hid (ofW_yes n _ 26 #[] w h (enters_of Tryd.func26 (by kernel_rfl) rfl) (digitSum_any n w h0 h1 htab))
    clear htab
    go_enter Tryd.func11, Tryd.ntmps11
    go_wp2_with (go_at_call 25; refine HF.out.mono ?_; rintro e w1 ⟨rfl, b1⟩)
    go_ret2
    exact ⟨ret_ib HZ.out rfl, b1⟩
  | false =>
    have HZ : Hid (0 = DigitSumA n) := by show _ = _; unfold DigitSumA; rw [if_neg (by simp [h])]
    clear htab
    go_enter Tryd.func11, Tryd.ntmps11
    go_wp2_with (go_at_call 25; refine (ofW_no n _ w h).mono ?_; rintro e w1 ⟨rfl, b1⟩)
    go_ret2
    exact ⟨ret_ib HZ.out rfl, b1⟩
theorem sDigitSum_any (n : Int) (w : World) :
    Calls Tryd.prog 10 #[.int .i64 n] w fun e w' => e = .returned (.tuple #[.int .i64 (DigitSumA n), .bool (nuB n)]) ∧ Below w.heap.size w w' := by
  cases h : nuB n with
  | true =>
    obtain ⟨h0, h1⟩ := (nuB_iff n).1 h
    have HZ : Hid (nsum n = DigitSumA n) := by show _ = _; unfold DigitSumA; rw [if_pos h]
    go_enter Tryd.func10, Tryd.ntmps10
    go_wp2_with (first | (go_at_call 23; refine (diGood_any _ _).mono ?_; rintro e w' ⟨rfl, rfl⟩) | (go_at_call 24; refine (diSum_any n _ h0 h1).mono ?_; rintro e w1 ⟨rfl, b1⟩))
    go_ret2
    exact ⟨ret_ib HZ.out rfl, b1⟩
  | false =>
    have HZ : Hid (0 = DigitSumA n) := by show _ = _; unfold DigitSumA; rw [if_neg (by simp [h])]
    go_enter Tryd.func10, Tryd.ntmps10
    go_wp2_with (go_at_call 23; refine (diGood_any _ _).mono ?_; rintro e w' ⟨rfl, rfl⟩)
    go_ret2
    exact ⟨ret_ib HZ.out rfl, Below.refl _ _⟩
theorem FnExactDigitSum_law (n : Int) (_h0 : (Lit.int .i64 n).wf = true) (w : World) (htab : Tab w) :
    Calls Tryd.prog 4 #[.int .i64 n] w fun e w' => e = .returned (.bool true) ∧ Below w.heap.size w w' := by
  have HT := Lib.hid (fun W hW => iDigitSum_any n W (htab.keep hW))
  clear htab
  go_enter Tryd.func4, Tryd.ntmps4
  go_wp2_with (first | (go_at_call 10; go_must ((with_reducible refine (sDigitSum_any _ _).mono ?_); rintro e w1 ⟨rfl, b1⟩)) | (go_at_call 11; go_must ((refine (HT.out _ b1).mono ?_); rintro e w2 ⟨rfl, b2⟩)))
  go_ret
  exact ⟨rfl, chain b1 b2⟩
/-- What DigitProduct answers. -/
def DigitProductA (n : Int) : Int := if nuB n = true then nprod n else 0
theorem iDigitProduct_any (n : Int) (w : World) (htab : Tab w) :
    Calls Tryd.prog 15 #[.int .i64 n] w fun e w' => e = .returned (.tuple #[.int .i64 (DigitProductA n), .bool (nuB n)]) ∧ Below w.heap.size w w' := by
  cases h : nuB n with
  | true =>
    obtain ⟨h0, h1⟩ := (nuB_iff n).1 h
    have HZ : Hid (nprod n = DigitProductA n) := by show _ = _; unfold DigitProductA; rw [if_pos h]
    have HF := Lib.hid (ofW_yes n _ 29 #[] w h (enters_of Tryd.func29 (by kernel_rfl) rfl) (digitProduct_any n w h0 h1 htab))
    clear htab
    go_enter Tryd.func15, Tryd.ntmps15
    go_wp2_with (go_at_call 25; refine HF.out.mono ?_; rintro e w1 ⟨rfl, b1⟩)
    go_ret2
    exact ⟨ret_ib HZ.out rfl, b1⟩
  | false =>
    have HZ : Hid (0 = DigitProductA n) := by show _ = _; unfold DigitProductA; rw [if_neg (by simp [h])]
    clear htab
    go_enter Tryd.func15, Tryd.ntmps15
    go_wp2_with (go_at_call 25; refine (ofW_no n _ w h).mono ?_; rintro e w1 ⟨rfl, b1⟩)
    go_ret2
    exact ⟨ret_ib HZ.out rfl, b1⟩
theorem sDigitProduct_any (n : Int) (w : World) :
    Calls Tryd.prog 14 #[.int .i64 n] w fun e w' => e = .returned (.tuple #[.int .i64 (DigitProductA n), .bool (nuB n)]) ∧ Below w.heap.size w w' := by
  cases h : nuB n with
  | true =>
    obtain ⟨h0, h1⟩ := (nuB_iff n).1 h
    have HZ : Hid (nprod n = DigitProductA n) := by show _ = _; unfold DigitProductA; rw [if_pos h]
    go_enter Tryd.func14, Tryd.ntmps14
    go_wp2_with (first | (go_at_call 23; refine (diGood_any _ _).mono ?_; rintro e w' ⟨rfl, rfl⟩) | (go_at_call 28; refine (diProduct_any n _ h0 h1).mono ?_; rintro e w1 ⟨rfl, b1⟩))
    go_ret2
    exact ⟨ret_ib HZ.out rfl, b1⟩
  | false =>
    have HZ : Hid (0 = DigitProductA n) := by show _ = _; unfold DigitProductA; rw [if_neg (by simp [h])]
    go_enter Tryd.func14, Tryd.ntmps14
    go_wp2_with (go_at_call 23; refine (diGood_any _ _).mono ?_; rintro e w' ⟨rfl, rfl⟩)
    go_ret2
    exact ⟨ret_ib HZ.out rfl, Below.refl _ _⟩
theorem FnExactDigitProduct_law (n : Int) (_h0 : (Lit.int .i64 n).wf = true) (w : World) (htab : Tab w) :
    Calls Tryd.prog 6 #[.int .i64 n] w fun e w' => e = .returned (.bool true) ∧ Below w.heap.size w w' := by
  have HT := Lib.hid (fun W hW => iDigitProduct_any n W (htab.keep hW))
  clear htab
  go_enter Tryd.func6, Tryd.ntmps6
  go_wp2_with (first | (go_at_call 14; go_must ((with_reducible refine (sDigitProduct_any _ _).mono ?_); rintro e w1 ⟨rfl, b1⟩)) | (go_at_call 15; go_must ((refine (HT.out _ b1).mono ?_); rintro e w2 ⟨rfl, b2⟩)))
  go_ret
  exact ⟨rfl, chain b1 b2⟩
theorem iDigitRoot_no (n : Int) (w : World) (h : nuB n = false) :
    Calls Tryd.prog 13 #[.int .i64 n] w fun e w' => e = .returned (.tuple #[.int .i64 0, .int .i64 0, .bool false]) ∧ Below w.heap.size w w' := by
  go_enter Tryd.func13, Tryd.ntmps13
  go_wp2_with (go_at_call 27; refine (endOf_no n _ w h).mono ?_; rintro e w1 ⟨rfl, b1⟩)
  go_ret3
  exact ⟨rfl, b1⟩
theorem iDigitRoot_yes (n : Int) (w : World) (htab : Tab w) (h : nuB n = true) :
    Calls Tryd.prog 13 #[.int .i64 n] w fun e w' => (∃ e2 t : Int, e = .returned (.tuple #[.int .i64 e2, .int .i64 t, .bool true]) ∧ EndIs nsum n e2 t) ∧ Below w.heap.size w w' := by
  have HF := Lib.hid (endOf_yes n nsum 26 w h nsum_lessens (enters_of Tryd.func26 (by kernel_rfl) rfl) (fun x W a b hW => digitSum_any x W a b (htab.keep hW)))
  clear htab
  go_enter Tryd.func13, Tryd.ntmps13
  go_wp2_with (go_at_call 27; refine HF.out.mono ?_; rintro e w1 ⟨⟨e2, t, rfl, he⟩, b1⟩; have HE := Lib.hid he; clear he)
  go_ret3
  exact ⟨⟨e2, t, rfl, HE.out⟩, b1⟩
theorem sDigitRoot_no (n : Int) (w : World) (h : nuB n = false) :
    Calls Tryd.prog 12 #[.int .i64 n] w fun e w' => e = .returned (.tuple #[.int .i64 0, .int .i64 0, .bool false]) ∧ Below w.heap.size w w' := by
  go_enter Tryd.func12, Tryd.ntmps12
  go_wp2_with (go_at_call 23; refine (diGood_any _ _).mono ?_; rintro e w' ⟨rfl, rfl⟩)
  go_ret3
  exact ⟨rfl, Below.refl _ _⟩
set_option maxHeartbeats 1000000 in
theorem sDigitRoot_yes (n : Int) (w : World) (h : nuB n = true) :
    Calls Tryd.prog 12 #[.int .i64 n] w fun e w' => (∃ e2 t : Int, e = .returned (.tuple #[.int .i64 e2, .int .i64 t, .bool true]) ∧ EndIs nsum n e2 t) ∧ Below w.heap.size w w' := by
  obtain ⟨h0, h1⟩ := (nuB_iff n).1 h
  go_enter Tryd.func12, Tryd.ntmps12
  go_wp2_with (go_at_call 23; refine (diGood_any _ _).mono ?_; rintro e w' ⟨rfl, rfl⟩)
  go_loopw [0, 5] (fun nv tv wr => ∃ (k : Nat) (x : Int), nv = .int .i64 x ∧ tv = .int .i64 k ∧ 0 ≤ x ∧ x + (k : Int) ≤ 1000000000000 ∧ Hid (x = itr nsum n k ∧ ∀ j, j < k → 9 < itr nsum n j) ∧ Below w.heap.size w wr) (fun nv _ _ => (intOf nv).toNat)
  case atStart => exact ⟨0, n, rfl, rfl, h0, by simpa using h1, ⟨rfl, fun j hj => by omega⟩, Below.refl _ _⟩
  case round =>
    obtain ⟨k, x, rfl, rfl, hx0, hx1, HK, hb⟩ := hrel
    by_cases hlt : 9 < x
    · have hc := diSum_any x wr hx0 (by omega)
      have HC := Lib.hid hc
      have hy0 := nsum_lessens.nn x hx0
      have hy1 := nsum_lessens.lt x (by omega)
      have HK' : Hid (nsum x = itr nsum n (k + 1) ∧ ∀ j, j < k + 1 → 9 < itr nsum n j) := ⟨by rw [itr, ← HK.out.1], fun j hj => by
        by_cases e : j = k
        · subst e; rw [← HK.out.1]; exact hlt
        · exact HK.out.2 j (by omega)⟩
      obtain ⟨y, hy⟩ : ∃ y, nsum x = y := ⟨_, rfl⟩
      rw [hy] at HC HK' hy0 hy1
      clear hc hy
      go_wp2_with (go_at_call 24; refine HC.out.mono ?_; rintro e w1 ⟨rfl, b1⟩)
      go_roundw
      case rel => exact ⟨k + 1, y, rfl, by go_num, hy0, by omega, HK', hb.trans (b1.mono hb.size)⟩
      case measure => simp [intOf]; omega
    · have HE : Hid (EndIs nsum n x (k : Int)) := ⟨k, rfl, HK.out.1, by omega, HK.out.2⟩
      go_wp2
      go_ret3
      exact ⟨⟨x, (k : Int), rfl, HE.out⟩, hb⟩
theorem FnExactDigitRoot_law (n : Int) (_h0 : (Lit.int .i64 n).wf = true) (w : World) (htab : Tab w) :
    Calls Tryd.prog 5 #[.int .i64 n] w fun e w' => e = .returned (.bool true) ∧ Below w.heap.size w w' := by
  cases hb : nuB n with
  | true =>
    have HT := Lib.hid (fun W hW => iDigitRoot_yes n W (htab.keep hW) hb)
    clear htab
    go_enter Tryd.func5, Tryd.ntmps5
    go_wp2_with (first | (go_at_call 12; go_must ((with_reducible refine (sDigitRoot_yes _ _ hb).mono ?_); rintro e w1 ⟨⟨l, a, rfl, hr⟩, b1⟩; have HR := Lib.hid hr; clear hr)) | (go_at_call 13; go_must ((refine (HT.out _ b1).mono ?_); rintro e w2 ⟨⟨m, c, rfl, hq⟩, b2⟩; have e0 := (HR.out.uniq hq).1; have e1 := (HR.out.uniq hq).2; subst e0; subst e1; clear hq)))
    go_ret
    exact ⟨rfl, chain b1 b2⟩
  | false =>
    clear htab
    go_enter Tryd.func5, Tryd.ntmps5
    go_wp2_with (first | (go_at_call 12; go_must ((with_reducible refine (sDigitRoot_no _ _ hb).mono ?_); rintro e w1 ⟨rfl, b1⟩)) | (go_at_call 13; go_must ((with_reducible refine (iDigitRoot_no _ _ hb).mono ?_); rintro e w2 ⟨rfl, b2⟩)))
    go_ret
    exact ⟨rfl, chain b1 b2⟩
theorem iProductEnd_no (n : Int) (w : World) (h : nuB n = false) :
    Calls Tryd.prog 17 #[.int .i64 n] w fun e w' => e = .returned (.tuple #[.int .i64 0, .int .i64 0, .bool false]) ∧ Below w.heap.size w w' := by
  go_enter Tryd.func17, Tryd.ntmps17
  go_wp2_with (go_at_call 27; refine (endOf_no n _ w h).mono ?_; rintro e w1 ⟨rfl, b1⟩)
  go_ret3
  exact ⟨rfl, b1⟩
theorem iProductEnd_yes (n : Int) (w : World) (htab : Tab w) (h : nuB n = true) :
    Calls Tryd.prog 17 #[.int .i64 n] w fun e w' => (∃ e2 t : Int, e = .returned (.tuple #[.int .i64 e2, .int .i64 t, .bool true]) ∧ EndIs nprod n e2 t) ∧ Below w.heap.size w w' := by
  have HF := Lib.hid (endOf_yes n nprod 29 w h nprod_lessens (enters_of Tryd.func29 (by kernel_rfl) rfl) (fun x W a b hW => digitProduct_any x W a b (htab.keep hW)))
  clear htab
  go_enter Tryd.func17, Tryd.ntmps17
  go_wp2_with (go_at_call 27; refine HF.out.mono ?_; rintro e w1 ⟨⟨e2, t, rfl, he⟩, b1⟩; have HE := Lib.hid he; clear he)
  go_ret3
  exact ⟨⟨e2, t, rfl, HE.out⟩, b1⟩
theorem sProductEnd_no (n : Int) (w : World) (h : nuB n = false) :
    Calls Tryd.prog 16 #[.int .i64 n] w fun e w' => e = .returned (.tuple #[.int .i64 0, .int .i64 0, .bool false]) ∧ Below w.heap.size w w' := by
  go_enter Tryd.func16, Tryd.ntmps16
  go_wp2_with (go_at_call 23; refine (diGood_any _ _).mono ?_; rintro e w' ⟨rfl, rfl⟩)
  go_ret3
  exact ⟨rfl, Below.refl _ _⟩
set_option maxHeartbeats 1000000 in
theorem sProductEnd_yes (n : Int) (w : World) (h : nuB n = true) :
    Calls Tryd.prog 16 #[.int .i64 n] w fun e w' => (∃ e2 t : Int, e = .returned (.tuple #[.int .i64 e2, .int .i64 t, .bool true]) ∧ EndIs nprod n e2 t) ∧ Below w.heap.size w w' := by
  obtain ⟨h0, h1⟩ := (nuB_iff n).1 h
  go_enter Tryd.func16, Tryd.ntmps16
  go_wp2_with (go_at_call 23; refine (diGood_any _ _).mono ?_; rintro e w' ⟨rfl, rfl⟩)
  go_loopw [0, 5] (fun nv tv wr => ∃ (k : Nat) (x : Int), nv = .int .i64 x ∧ tv = .int .i64 k ∧ 0 ≤ x ∧ x + (k : Int) ≤ 1000000000000 ∧ Hid (x = itr nprod n k ∧ ∀ j, j < k → 9 < itr nprod n j) ∧ Below w.heap.size w wr) (fun nv _ _ => (intOf nv).toNat)
  case atStart => exact ⟨0, n, rfl, rfl, h0, by simpa using h1, ⟨rfl, fun j hj => by omega⟩, Below.refl _ _⟩
  case round =>
    obtain ⟨k, x, rfl, rfl, hx0, hx1, HK, hb⟩ := hrel
    by_cases hlt : 9 < x
    · have hc := diProduct_any x wr hx0 (by omega)
      have HC := Lib.hid hc
      have hy0 := nprod_lessens.nn x hx0
      have hy1 := nprod_lessens.lt x (by omega)
      have HK' : Hid (nprod x = itr nprod n (k + 1) ∧ ∀ j, j < k + 1 → 9 < itr nprod n j) := ⟨by rw [itr, ← HK.out.1], fun j hj => by
        by_cases e : j = k
        · subst e; rw [← HK.out.1]; exact hlt
        · exact HK.out.2 j (by omega)⟩
      obtain ⟨y, hy⟩ : ∃ y, nprod x = y := ⟨_, rfl⟩
      rw [hy] at HC HK' hy0 hy1
      clear hc hy
      go_wp2_with (go_at_call 28; refine HC.out.mono ?_; rintro e w1 ⟨rfl, b1⟩)
      go_roundw
      case rel => exact ⟨k + 1, y, rfl, by go_num, hy0, by omega, HK', hb.trans (b1.mono hb.size)⟩
      case measure => simp [intOf]; omega
    · have HE : Hid (EndIs nprod n x (k : Int)) := ⟨k, rfl, HK.out.1, by omega, HK.out.2⟩
      go_wp2
      go_ret3
      exact ⟨⟨x, (k : Int), rfl, HE.out⟩, hb⟩
theorem FnExactProductEnd_law (n : Int) (_h0 : (Lit.int .i64 n).wf = true) (w : World) (htab : Tab w) :
    Calls Tryd.prog 7 #[.int .i64 n] w fun e w' => e = .returned (.bool true) ∧ Below w.heap.size w w' := by
  cases hb : nuB n with
  | true =>
    have HT := Lib.hid (fun W hW => iProductEnd_yes n W (htab.keep hW) hb)
    clear htab
    go_enter Tryd.func7, Tryd.ntmps7
    go_wp2_with (first | (go_at_call 16; go_must ((with_reducible refine (sProductEnd_yes _ _ hb).mono ?_); rintro e w1 ⟨⟨l, a, rfl, hr⟩, b1⟩; have HR := Lib.hid hr; clear hr)) | (go_at_call 17; go_must ((refine (HT.out _ b1).mono ?_); rintro e w2 ⟨⟨m, c, rfl, hq⟩, b2⟩; have e0 := (HR.out.uniq hq).1; have e1 := (HR.out.uniq hq).2; subst e0; subst e1; clear hq)))
    go_ret
    exact ⟨rfl, chain b1 b2⟩
  | false =>
    clear htab
    go_enter Tryd.func7, Tryd.ntmps7
    go_wp2_with (first | (go_at_call 16; go_must ((with_reducible refine (sProductEnd_no _ _ hb).mono ?_); rintro e w1 ⟨rfl, b1⟩)) | (go_at_call 17; go_must ((with_reducible refine (iProductEnd_no _ _ hb).mono ?_); rintro e w2 ⟨rfl, b2⟩)))
    go_ret
    exact ⟨rfl, chain b1 b2⟩
/-- The digit at a place. -/
def DgtIs (k x : Int) : Prop := ∃ n a : Int, PlaceIs k n a ∧ ∃ s, TxtOf n s ∧ x = dj s (a - 1).toNat
theorem DgtIs.uniq {k x y : Int} (u : DgtIs k x) (v : DgtIs k y) : x = y := by
  obtain ⟨n, a, h1, s, h2, rfl⟩ := u
  obtain ⟨m, b, h3, t, h4, rfl⟩ := v
  obtain ⟨rfl, rfl⟩ := h1.uniq h3
  have : s = t := ByteArray.ext (Array.ext' (h2.trans h4.symm))
  rw [this]
theorem iDap_yes (k : Int) (w : World) (htab : Tab w) (h : plB k = true) :
    Calls Tryd.prog 9 #[.int .i64 k] w fun e w' => (∃ x : Int, e = .returned (.tuple #[.int .i64 x, .bool true]) ∧ DgtIs k x) ∧ Below w.heap.size w w' := by
  have HT := Lib.hid htab
  clear htab
  go_enter Tryd.func9, Tryd.ntmps9
  go_wp2_with (first | (go_at_call 21; refine (iNap_yes k _ h).mono ?_; rintro e w1 ⟨⟨n, a, rfl, hp⟩, b1⟩) | fail)
  have hpb := hp.bd
  obtain ⟨hn1, hn2, ha1, ha2⟩ := hpb
  obtain ⟨s, hs⟩ := txt_ex n
  have hsz : s.size = (Lib.decDigits n.toNat).length := by rw [← hs]; simp
  rw [← hsz] at ha2
  obtain ⟨j, hj⟩ : ∃ j : Nat, a = (j : Int) + 1 := ⟨(a - 1).toNat, by omega⟩
  subst hj
  have hjs : j < s.size := by omega
  have HR : Hid (DgtIs k (dj s j)) := ⟨n, (j : Int) + 1, hp, s, hs, by rw [show ((j : Int) + 1 - 1).toNat = j by omega]⟩
  have hs13 := (hs.size hn2).2
  have HI := Lib.hid (decimals_any n s w1 (by omega) hn2 hs (HT.out.keep b1))
  clear hp hs hsz
  go_wp2_with (go_at_call 22; refine HI.out.mono ?_; rintro e w2 ⟨⟨g, rfl, hr, hg⟩, b2⟩; have c0 := hr.cell hjs; have HRR := Lib.hid hr; clear hr)
  go_ret2
  exact ⟨⟨_, rfl, HR.out⟩, chain b1 b2⟩
theorem sDap_yes (k : Int) (w : World) (h : plB k = true) :
    Calls Tryd.prog 8 #[.int .i64 k] w fun e w' => (∃ x : Int, e = .returned (.tuple #[.int .i64 x, .bool true]) ∧ DgtIs k x) ∧ Below w.heap.size w w' := by
  obtain ⟨h1, h2⟩ := (plB_iff k).1 h
  have hd : decide (1 ≤ k ∧ k ≤ 1000000000000) = true := h
  clear h
  go_enter Tryd.func8, Tryd.ntmps8
  go_wp2_with (first | (go_at_call 18; refine (in_any _ _ _ _).mono ?_; rintro e w' ⟨rfl, rfl⟩) | (go_at_call 19; refine (diPlace_any k _ h1 h2).mono ?_; rintro e w1 ⟨⟨n, a, rfl, hp⟩, b1⟩) | fail)
  have hpb := hp.bd
  obtain ⟨hn1, hn2, ha1, ha2⟩ := hpb
  obtain ⟨s, hs⟩ := txt_ex n
  have hsz : s.size = (Lib.decDigits n.toNat).length := by rw [← hs]; simp
  rw [← hsz] at ha2
  obtain ⟨j, hj⟩ : ∃ j : Nat, a = (j : Int) + 1 := ⟨(a - 1).toNat, by omega⟩
  subst hj
  have hjs : j < s.size := by omega
  have hc := digB_get s j hjs hs.dig
  obtain ⟨hc1, hc2⟩ := hc
  have HR : Hid (DgtIs k ((s[j].toNat : Int) - 48)) := ⟨n, (j : Int) + 1, hp, s, hs, by rw [show ((j : Int) + 1 - 1).toNat = j by omega, dj_get s j hjs]⟩
  have hs13 := (hs.size hn2).2
  have HI := Lib.hid (fun W => l1Num_s n s W (by omega) hn2 hs)
  clear hp hs hsz
  go_wp2_with (go_at_call 20; refine (HI.out _).mono ?_; rintro e w2 ⟨rfl, b2⟩)
  go_ret2
  exact ⟨⟨_, rfl, HR.out⟩, chain b1 b2⟩
theorem iDap_no (k : Int) (w : World) (h : plB k = false) :
    Calls Tryd.prog 9 #[.int .i64 k] w fun e w' => e = .returned (.tuple #[.int .i64 0, .bool false]) ∧ Below w.heap.size w w' := by
  go_enter Tryd.func9, Tryd.ntmps9
  go_wp2_with (first | (go_at_call 21; refine (iNap_no k _ h).mono ?_; rintro e w1 ⟨rfl, b1⟩) | fail)
  go_ret2
  exact ⟨rfl, b1⟩
theorem sDap_no (k : Int) (w : World) (h : plB k = false) :
    Calls Tryd.prog 8 #[.int .i64 k] w fun e w' => e = .returned (.tuple #[.int .i64 0, .bool false]) ∧ Below w.heap.size w w' := by
  have hd : decide (1 ≤ k ∧ k ≤ 1000000000000) = false := h
  go_enter Tryd.func8, Tryd.ntmps8
  go_wp2_with (go_at_call 18; refine (in_any _ _ _ _).mono ?_; rintro e w' ⟨rfl, rfl⟩)
  go_ret2
  exact ⟨rfl, Below.refl _ _⟩
theorem FnExactDigitAtPlace_law (n : Int) (_h0 : (Lit.int .i64 n).wf = true) (w : World) (htab : Tab w) :
    Calls Tryd.prog 3 #[.int .i64 n] w fun e w' => e = .returned (.bool true) ∧ Below w.heap.size w w' := by
  cases hb : plB n with
  | true =>
    have HT := Lib.hid (fun W hW => iDap_yes n W (htab.keep hW) hb)
    clear htab
    go_enter Tryd.func3, Tryd.ntmps3
    go_wp2_with (first | (go_at_call 8; go_must ((with_reducible refine (sDap_yes _ _ hb).mono ?_); rintro e w1 ⟨⟨l, rfl, hr⟩, b1⟩; have HR := Lib.hid hr; clear hr)) | (go_at_call 9; go_must ((refine (HT.out _ b1).mono ?_); rintro e w2 ⟨⟨m, rfl, hq⟩, b2⟩; have e0 := HR.out.uniq hq; subst e0; clear hq)))
    go_ret
    exact ⟨rfl, chain b1 b2⟩
  | false =>
    clear htab
    go_enter Tryd.func3, Tryd.ntmps3
    go_wp2_with (first | (go_at_call 8; go_must ((with_reducible refine (sDap_no _ _ hb).mono ?_); rintro e w1 ⟨rfl, b1⟩)) | (go_at_call 9; go_must ((with_reducible refine (iDap_no _ _ hb).mono ?_); rintro e w2 ⟨rfl, b2⟩)))
    go_ret
    exact ⟨rfl, chain b1 b2⟩
end Go.Proofs.YtdgdjgefjhkpbaaDoor
