/-
  Hidden tickets, and what the model tells of them: both sides.
-/
import Derived.Test.YtakckgbkfnogbaaDoorPzTk
import Derived.Shelf.Strings.SlTrimAscii
import Derived.Lib.SlTrimSet
namespace Go.Proofs.YtakckgbkfnogbaaDoor
open Go.RowKit
set_option maxRecDepth 100000

theorem u8_all {p : UInt8 → Bool} (h : (List.range 256).all (fun n => p (UInt8.ofNat n)) = true) (c : UInt8) : p c = true := by
  have := List.all_eq_true.1 h c.toNat (by rw [List.mem_range]; exact c.toNat_lt)
  simpa using this
theorem dropWhile_nil (l : List UInt8) (p : UInt8 → Bool) : l.dropWhile p = [] ↔ l.all p = true := by
  induction l with
  | nil => simp
  | cons c l ih => simp only [List.dropWhile_cons, List.all_cons, Bool.and_eq_true]; split <;> simp_all
theorem trimS_nil (l cs : List UInt8) : Lib.trimS l cs = [] ↔ l.all (cs.contains ·) = true := by
  unfold Lib.trimS Lib.trimLeftS
  rw [dropWhile_nil]
  unfold Lib.trimRightS
  constructor
  · intro h
    rw [List.all_eq_true] at h
    have h2 : (l.reverse.dropWhile (cs.contains ·)).all (cs.contains ·) = true := by
      rw [List.all_eq_true]
      intro x hx
      exact h x (by rw [List.mem_reverse]; exact hx)
    have h3 : l.reverse.dropWhile (cs.contains ·) = [] := by
      cases e : l.reverse.dropWhile (cs.contains ·) with
      | nil => rfl
      | cons x t =>
        exfalso
        have h4 : cs.contains x = false := by
          have := List.head?_dropWhile_not (cs.contains ·) l.reverse
          rw [e] at this
          simpa using this
        rw [e] at h2
        simp only [List.all_cons, Bool.and_eq_true] at h2
        rw [h4] at h2
        exact absurd h2.1 (by decide)
    rw [dropWhile_nil] at h3
    simpa using h3
  · intro h
    have h3 : l.reverse.dropWhile (cs.contains ·) = [] := by rw [dropWhile_nil]; simpa using h
    rw [h3]; rfl
theorem all_congr (l : List UInt8) (p q : UInt8 → Bool) (h : ∀ c, p c = q c) : l.all p = l.all q := by
  congr 1; funext c; exact h c
theorem alike_any (a b c d : Int) (w : World) :
    Calls Tryd.prog 83 #[.agg #[.int .i64 a, .int .i64 b, .int .i64 c, .int .i64 d]] w fun e w' => e = .returned (.bool (decide (a = c ∧ b = d))) ∧ Below w.heap.size w w' := by
  by_cases h1 : a = c <;> by_cases h2 : b = d
  · subst h1; subst h2
    go_enter Tryd.func83, Tryd.ntmps83
    go_wp2
    go_ret
    exact ⟨by simp, by go_grown⟩
  · subst h1
    have H2 : decide (a = a ∧ b = d) = false := by simp [h2]
    have H3 := Lib.hid H2; clear H2
    go_enter Tryd.func83, Tryd.ntmps83
    go_wp2
    go_ret
    exact ⟨by first | rfl | exact ret_bool H3.out.symm, by go_grown⟩
  · subst h2
    have H2 : decide (a = c ∧ b = b) = false := by simp [h1]
    have H3 := Lib.hid H2; clear H2
    go_enter Tryd.func83, Tryd.ntmps83
    go_wp2
    go_ret
    exact ⟨by first | rfl | exact ret_bool H3.out.symm, by go_grown⟩
  · have H2 : decide (a = c ∧ b = d) = false := by simp [h1]
    have H3 := Lib.hid H2; clear H2
    go_enter Tryd.func83, Tryd.ntmps83
    go_wp2
    go_ret
    exact ⟨by first | rfl | exact ret_bool H3.out.symm, by go_grown⟩

theorem hdS_iff (c : UInt8) : ([48, 49, 50, 51, 52, 53] : List UInt8).contains c = hdB c := by
  have := u8_all (p := fun c => ([48, 49, 50, 51, 52, 53] : List UInt8).contains c == hdB c) (by decide +kernel) c
  simpa using this
theorem trim_hd (l : List UInt8) : decide (Lib.trimS l [48, 49, 50, 51, 52, 53] = []) = l.all hdB := by
  rw [Bool.eq_iff_iff, decide_eq_true_iff, trimS_nil, all_congr l _ _ hdS_iff]
theorem trimH_any (s : ByteArray) (w : World) (hs : s.size ≤ 9223372036854775807) :
    Calls Tryd.prog 62 #[.string s, .string ⟨#[48, 49, 50, 51, 52, 53]⟩] w fun e w' => e = .returned (.string ⟨(Lib.trimS s.data.toList [48, 49, 50, 51, 52, 53]).toArray⟩) ∧ Below w.heap.size w w' :=
  Any.strings_Trim_laid Tryd.lays160 (by kernel_rfl) s ⟨#[48, 49, 50, 51, 52, 53]⟩ w hs (by decide) (ascii_of_all (by decide +kernel))
theorem str_empty (l : List UInt8) : ((⟨l.toArray⟩ : ByteArray).toList == (⟨#[]⟩ : ByteArray).toList) = decide (l = []) := by
  rw [Lib.toList_data, Lib.toList_data]
  cases l <;> simp
theorem isHidden_any (s : ByteArray) (w : World) (hs : s.size ≤ maxLen) :
    Calls Tryd.prog 42 #[.string s] w fun e w' => e = .returned (.bool (hidB s.data.toList)) ∧ Below w.heap.size w w' := by
  unfold maxLen at hs
  have hl : s.data.toList.length = s.size := by simp
  have hsl : ∀ W, (Instr.slice 9 (.string ⟨#[48, 49, 50, 51, 52, 53, 54, 55, 56, 57]⟩) none (some (.int .i64 6)) none).run Tryd.prog W = .ok (.string ⟨#[48, 49, 50, 51, 52, 53]⟩) W := fun W => by kernel_rfl
  have HE : Hid (∀ b, (s.data.toList.all hdB && decide (s.size = 4)) = b → hidB s.data.toList = b) := by
    intro b h; subst h; unfold hidB; rw [hl, Bool.and_comm]
  have HT := Lib.hid (trim_hd s.data.toList)
  clear hl
  by_cases h1 : s.size = 4
  · have h2 : (s.size : Int) = 4 := by omega
    have h3 : ((s.size : Int) == 4) = true := by simpa using h2
    have HX := Lib.hid h1
    clear h1 h2
    go_enter Tryd.func42, Tryd.ntmps42
    go_wp2_with (go_at_call 62; refine (trimH_any s _ hs).mono ?_; rintro e w1 ⟨rfl, b1⟩)
    go_ret
    exact ⟨ret_bool (by rw [HE.out _ rfl, decide_eq_true HX.out, Bool.and_true, ← HT.out, ← str_empty]; simp), b1⟩
  · have h2 : ¬ (s.size : Int) = 4 := by omega
    have h3 : ((s.size : Int) == 4) = false := by simpa using h2
    have HX := Lib.hid h1
    clear h1 h2
    go_enter Tryd.func42, Tryd.ntmps42
    go_wp2
    go_ret
    exact ⟨ret_bool (by rw [HE.out _ rfl, decide_eq_false HX.out, Bool.and_false]), Below.refl _ _⟩
theorem isHidden_b (s : ByteArray) (x : Bool) (w : World) (hs : s.size ≤ maxLen) (hx : hidB s.data.toList = x) :
    Calls Tryd.prog 42 #[.string s] w fun e w' => e = .returned (.bool x) ∧ Below w.heap.size w w' := by subst hx; exact isHidden_any s w hs
theorem hid_no {s : ByteArray} {k : Nat} (hk : k < s.size) (h : hdB s[k] = false) : hidB s.data.toList = false := by
  cases e : hidB s.data.toList with
  | false => rfl
  | true =>
    have h2 := hid_all e
    rw [List.all_eq_true] at h2
    have := h2 s[k] (List.getElem_mem (by simpa using hk))
    rw [h] at this; cases this
theorem hdB_dec (c : UInt8) : decide (0 ≤ (c.toNat : Int) - 48 ∧ (c.toNat : Int) - 48 ≤ 5) = hdB c := by
  unfold hdB
  rw [decide_eq_decide]; omega
theorem pzHidden_any (s : ByteArray) (w : World) (_hs : s.size ≤ maxLen) :
    Calls Tryd.prog 38 #[.string s] w fun e w' => e = .returned (.bool (hidB s.data.toList)) ∧ w = w' := by
  by_cases h1 : s.size = 4
  · have h2 : (s.size : Int) = 4 := by omega
    go_enter Tryd.func38, Tryd.ntmps38
    go_wp2
    go_loop [3] (fun i => ∃ k : Nat, k ≤ 4 ∧ i = .int .i64 k ∧ Hid (∀ j (hj : j < s.size), j < k → hdB s[j] = true)) (fun i => 4 - (intOf i).toNat)
    case atStart => exact ⟨0, Nat.zero_le _, rfl, fun j _ hj => by omega⟩
    case round =>
      obtain ⟨k, hk, rfl, HI⟩ := hrel
      by_cases hlt : k < 4
      · have hlts : k < s.size := by omega
        have hd := hdB_dec s[k]
        have hu0 : (0 : Int) ≤ (s[k].toNat : Int) := by omega
        have hu1 : (s[k].toNat : Int) ≤ 255 := by have := s[k].toNat_lt; omega
        cases hb : hdB s[k] with
        | true =>
          rw [hb] at hd
          have HI2 : Hid (∀ j (hj : j < s.size), j < k + 1 → hdB s[j] = true) := by
            intro j hj hjk
            by_cases e : j = k
            · subst e; exact hb
            · exact HI.out j hj (by omega)
          have HD := Lib.hid hd
          clear hd hb
          go_wp2_with (go_at_call 58; (with_reducible refine (in_b _ _ _ true _ HD.out).mono ?_); rintro e w1 ⟨rfl, rfl⟩)
          go_round
          case rel => exact ⟨k + 1, by omega, by go_num, HI2⟩
          case measure => simp [intOf]; omega
        | false =>
          rw [hb] at hd
          have HN := Lib.hid (hid_no hlts hb)
          have HD := Lib.hid hd
          clear hd hb
          go_wp2_with (go_at_call 58; (with_reducible refine (in_b _ _ _ false _ HD.out).mono ?_); rintro e w1 ⟨rfl, rfl⟩)
          go_ret
          exact ⟨ret_bool HN.out.symm, rfl⟩
      · have HY : Hid (hidB s.data.toList = true) := by
          show _ = _
          unfold hidB
          rw [decide_eq_true (by simpa using h1), Bool.true_and, List.all_eq_true]
          intro c hc
          obtain ⟨j, hj, rfl⟩ := List.mem_iff_getElem.1 hc
          exact HI.out j (by simpa using hj) (by simp at hj; omega)
        go_wp2
        go_ret
        exact ⟨ret_bool HY.out.symm, rfl⟩
  · have h2 : ¬ (s.size : Int) = 4 := by omega
    have HN : Hid (hidB s.data.toList = false) := by show _ = _; unfold hidB; rw [decide_eq_false (by simpa using h1)]; rfl
    clear h1
    go_enter Tryd.func38, Tryd.ntmps38
    go_wp2
    go_ret
    exact ⟨ret_bool HN.out.symm, rfl⟩
theorem pzHidden_b (s : ByteArray) (x : Bool) (w : World) (hs : s.size ≤ maxLen) (hx : hidB s.data.toList = x) :
    Calls Tryd.prog 38 #[.string s] w fun e w' => e = .returned (.bool x) ∧ w = w' := by subst hx; exact pzHidden_any s w hs
end Go.Proofs.YtakckgbkfnogbaaDoor
