/-
  Both functions make the same ticket of a number.
-/
import Derived.Test.YtlgleghofiflaabDoorRows
import Derived.Test.YtlgleghofiflaabDoorMath
import Derived.Test.YtlgleghofiflaabDoorShelf
import Derived.WalkKit
import Derived.ProofKit
import Derived.Handy
import Derived.Lib.Hide
import Derived.Below
import Derived.Deep.QuietTactic
import Derived.BigQuiet
import Derived.Deep.RegionWith
import Derived.Deep.DrawnRows
import Derived.Outline
import Derived.WalkSpells
import Derived.WalkSmall
import Derived.Lib.LaidTab
import Derived.Lib.AppendIntMem
import Derived.Sort.Grow
namespace Go.Proofs.YtlgleghofiflaabDoor
open Go.RowKit

theorem ret_bool {a b : Bool} (h : a = b) : Ending.returned (.bool a) = .returned (.bool b) := by rw [h]
theorem ret_str {a b : ByteArray} (h : a = b) : Ending.returned (.string a) = .returned (.string b) := by rw [h]
theorem val_int {k : IntKind} {a b : Int} (h : a = b) : Value.int k a = .int k b := by rw [h]
theorem chain {w a b : World} (h : Below w.heap.size w a) (k : Below a.heap.size a b) : Below w.heap.size w b := h.trans (k.mono h.size)

theorem in_any (n lo hi : Int) (w : World) :
    Calls Tryd.prog 9 #[.int .i64 n, .int .i64 lo, .int .i64 hi] w fun e w' => e = .returned (.bool (decide (lo ≤ n ∧ n ≤ hi))) ∧ w = w' := by
  by_cases h1 : lo ≤ n <;> by_cases h2 : n ≤ hi
  all_goals
    go_enter Tryd.func9, Tryd.ntmps9
    go_wp2
    go_ret
    exact ⟨by simp [h1, h2], rfl⟩
theorem isSize_any (d : Int) (w : World) :
    Calls Tryd.prog 19 #[.int .i64 d] w fun e w' => e = .returned (.bool (szB d)) ∧ w = w' := by
  by_cases h1 : 2 ≤ d <;> by_cases h2 : d ≤ 12 <;> by_cases h3 : d % 2 = 0
  all_goals
    go_enter Tryd.func19, Tryd.ntmps19
    go_wp2
    go_ret
    exact ⟨by simp [szB, h1, h2, h3], rfl⟩
theorem tkSize_any (d : Int) (w : World) :
    Calls Tryd.prog 18 #[.int .i64 d] w fun e w' => e = .returned (.bool (szB d)) ∧ w = w' := by
  by_cases h1 : 2 ≤ d <;> by_cases h2 : d ≤ 12 <;> by_cases h3 : d % 2 = 0
  all_goals
    go_enter Tryd.func18, Tryd.ntmps18
    go_wp2
    go_ret
    exact ⟨by simp [szB, h1, h2, h3], rfl⟩
/-- The digit of n at place k from the end. -/
def dt (n k : Nat) : Nat := n / 10 ^ k % 10
def dc (u : Nat) : UInt8 := UInt8.ofNat (48 + u)
/-- The last k digits. -/
def lw (n : Nat) : Nat → List UInt8
  | 0 => []
  | k + 1 => dc (dt n k) :: lw n k
theorem lw_len (n k : Nat) : (lw n k).length = k := by
  induction k with
  | zero => rfl
  | succ k ih => simp [lw, ih]
theorem dt_le (n k : Nat) : dt n k ≤ 9 := by unfold dt; omega
theorem dt_up (n k : Nat) : dt n (k + 1) = dt (n / 10) k := by
  unfold dt; rw [Nat.pow_succ, Nat.mul_comm, Nat.div_div_eq_div_mul]
theorem lw_up (n k : Nat) : lw n (k + 1) = lw (n / 10) k ++ [dc (n % 10)] := by
  induction k with
  | zero => simp [lw, dt]
  | succ k ih => rw [lw, ih, lw, dt_up]; rfl
theorem dec_small {n : Nat} (h : n < 10) : Lib.decDigits n = [dc n] := by rw [Lib.decDigits, dif_pos h]; rfl
theorem dec_big {n : Nat} (h : ¬ n < 10) : Lib.decDigits n = Lib.decDigits (n / 10) ++ [dc (n % 10)] := by rw [Lib.decDigits, dif_neg h]; rfl
theorem dec_fits (d : Nat) : ∀ n : Nat, n < 10 ^ (d + 1) → (Lib.decDigits n).length ≤ d + 1 ∧ lw n (d + 1) = List.replicate (d + 1 - (Lib.decDigits n).length) 48 ++ Lib.decDigits n := by
  induction d with
  | zero =>
    intro n h
    have h10 : n < 10 := by simpa using h
    rw [dec_small h10, lw_up]
    simp [lw, Nat.mod_eq_of_lt h10]
  | succ d ih =>
    intro n h
    have hn : n / 10 < 10 ^ (d + 1) := by
      rw [Nat.div_lt_iff_lt_mul (by omega)]
      rwa [Nat.pow_succ] at h
    obtain ⟨h1, h2⟩ := ih (n / 10) hn
    by_cases h10 : n < 10
    · rw [dec_small h10, lw_up, h2]
      have h0 : n / 10 = 0 := by omega
      rw [h0, dec_small (by omega)]
      refine ⟨by simp, ?_⟩
      simp only [List.length_singleton, Nat.add_sub_cancel, Nat.mod_eq_of_lt h10]
      rw [show [dc 0] = List.replicate 1 48 from rfl, List.replicate_append_replicate]
    · rw [dec_big h10, lw_up, h2]
      refine ⟨by simp; omega, ?_⟩
      rw [List.append_assoc]
      congr 2
      simp
theorem dec_pow (n : Nat) : n < 10 ^ (Lib.decDigits n).length := by
  induction n using Nat.strongRecOn with
  | _ n ih =>
    by_cases h10 : n < 10
    · rw [dec_small h10]; simpa using h10
    · rw [dec_big h10]
      have := ih (n / 10) (by omega)
      simp only [List.length_append, List.length_singleton]
      rw [Nat.pow_succ]
      omega
theorem dec_no {n d : Nat} (h : ¬ n < 10 ^ d) : d < (Lib.decDigits n).length := by
  rcases Nat.lt_or_ge d (Lib.decDigits n).length with h' | h'
  · exact h'
  · exact absurd (Nat.lt_of_lt_of_le (dec_pow n) (Nat.pow_le_pow_right (by omega) h')) h
theorem num_d (u : Nat) (x : Int) (w : World) (h9 : u ≤ 9) (hx : x = (u : Int)) :
    Calls Tryd.prog 10 #[.int .i64 x] w fun e w' => e = .returned (.string ⟨[dc u].toArray⟩) ∧ Below w.heap.size w w' := by
  subst hx
  have hcv : (convert 37 9 (.slice (some ⟨w.heap.size, 0, none⟩) 1 1)).run Tryd.prog (w.alloc (.cells #[.int .u8 (48 + (u : Int))] 5)) = .ok (.string ⟨[dc u].toArray⟩) (w.alloc (.cells #[.int .u8 (48 + (u : Int))] 5)) :=
    run_convert_bytes_back (P := Tryd.prog) (w.alloc (.cells #[.int .u8 (48 + (u : Int))] 5)) 37 9 5 ⟨w.heap.size, 0, none⟩ 1 [dc u] Tryd.underlying37 Tryd.underlying5 Tryd.underlying9 (by
      intro j hj
      match j, hj with
      | 0, _ => simp [Addr.add, dc]; omega)
  go_enter Tryd.func10, Tryd.ntmps10
  go_wp2
  go_ret
  exact ⟨rfl, by go_grown⟩
theorem str_two (l m : List UInt8) : (⟨l.toArray⟩ : ByteArray) ++ ⟨m.toArray⟩ = ⟨(l ++ m).toArray⟩ := by
  apply ByteArray.ext
  simp [ByteArray.data_append]
theorem tab_below {P : Program} {w w' : World} {name : String} {k : IntKind} {zs : List Int} (h : Lib.TabIs P w name k zs) (hb : Below w.heap.size w w') : Lib.TabIs P w' name k zs := by
  unfold Lib.TabIs World.var? at *
  cases hg : P.globalNamed name with
  | none => rw [hg] at h; cases h
  | some g =>
    rw [hg] at h
    simp only [Option.bind_some] at h ⊢
    by_cases hl : g < w.heap.size
    · rw [hb.block g hl]; exact h
    · rw [Array.getElem?_eq_none (by omega)] at h; cases h
/-- It begins with a 0. -/
def hasP (p : ByteArray) : Bool := (p.extract 0 1).toList == [48]
theorem pre_at (p : ByteArray) (b : Bool) (w : World) (hp : hasP p = b) (hsz : (decide (1 ≤ p.size) && decide (p.size ≤ 1000)) = true) :
    Calls Tryd.prog 26 #[.string p, .string ⟨#[48]⟩] w fun e w' => e = .returned (.bool b) ∧ w' = w := by
  unfold hasP at hp
  simp only [Bool.and_eq_true, decide_eq_true_eq] at hsz
  obtain ⟨hs, hm⟩ := hsz
  cases b
  all_goals
    go_enter Tryd.func26, Tryd.ntmps26
    go_wp2
    go_ret
    exact ⟨by simp at hp; first | (simp; done) | simp [hp], rfl⟩
theorem mul_one (c : Nat) (h : c ≤ 11) (w : World) :
    Calls Tryd.prog 25 #[.int .u64 1, .int .u64 c] w fun e w' => e = .returned (.tuple #[.int .u64 0, .int .u64 c]) ∧ w' = w := by
  refine (Tryd.bits_Mul 1 c (by omega) (by omega) w).mono ?_
  rintro e w' ⟨rfl, rfl⟩
  refine ⟨?_, rfl⟩
  rw [show 1 * c / 18446744073709551616 = 0 by omega, show 1 * c % 18446744073709551616 = c by omega]; rfl
def zs : ByteArray := ⟨(List.replicate 64 48).toArray⟩
theorem zer (c : Nat) (h : c ≤ 11) : zs.extract 0 c = ⟨(List.replicate c 48).toArray⟩ := by
  apply ByteArray.ext
  apply Array.ext'
  simp only [zs, ByteArray.data_extract, Array.toList_extract, List.extract_eq_take_drop, List.drop_zero, Nat.sub_zero, List.take_replicate, show min c 64 = c by omega]
set_option maxRecDepth 100000 in
theorem rep_any (c : Nat) (h : c ≤ 11) (x : Int) (hx : x = (c : Int)) (w : World) :
    Calls Tryd.prog 21 #[.string ⟨#[48]⟩, .int .i64 x] w fun e w' => e = .returned (.string ⟨(List.replicate c 48).toArray⟩) ∧ w' = w := by
  subst hx
  by_cases c0 : c = 0
  · subst c0
    go_enter Tryd.func21, Tryd.ntmps21
    go_wp2
    go_ret
    exact ⟨ret_str (by simp), by simp⟩
  · by_cases c1 : c = 1
    · subst c1
      go_enter Tryd.func21, Tryd.ntmps21
      go_wp2
      go_ret
      exact ⟨ret_str (by simp), by simp⟩
    · go_enter Tryd.func21, Tryd.ntmps21
      go_wp2_with (first | (go_at_call 25; go_must ((with_reducible refine (mul_one c h _).mono ?_); rintro e w1 ⟨rfl, rfl⟩)) | (go_at_call 26; first | (refine (pre_at _ false _ (by decide +kernel) (by decide +kernel)).mono ?_; rintro e w1 ⟨rfl, rfl⟩) | (refine (pre_at _ true _ (by decide +kernel) (by decide +kernel)).mono ?_; rintro e w1 ⟨rfl, rfl⟩)))
      go_ret
      exact ⟨ret_str (zer c h), rfl⟩
theorem itoa_at (n : Int) (D : List UInt8) (h0 : 0 ≤ n) (h1 : n ≤ 9223372036854775807) (hD : D = Lib.decDigits n.toNat) (w : World) (htab : Lib.TabIs Tryd.prog w "internal/strconv.uint64pow10" .u64 Lib.pow10Tab) :
    Calls Tryd.prog 14 #[.int .i64 n] w fun e w' => e = .returned (.string ⟨D.toArray⟩) ∧ Below w.heap.size w w' := by
  refine (Tryd.strconv_Itoa n (by omega) h1 w htab).mono ?_
  rintro e w' ⟨rfl, k, os, rfl⟩
  refine ⟨?_, Lib.below_grow _ _ (Nat.le_refl _) _ _⟩
  rw [hD, Lib.itoa, if_neg (by omega)]
theorem dec_pos (n : Nat) : 1 ≤ (Lib.decDigits n).length := by
  by_cases h10 : n < 10
  · rw [dec_small h10]; simp
  · rw [dec_big h10]; simp
/-- The number has room. -/
def tonB (d n : Int) : Bool := szB d && decide (0 ≤ n ∧ n.toNat < 10 ^ d.toNat)
def ton (d n : Int) : List UInt8 := lw n.toNat d.toNat
theorem ton_eq (d n : Int) (hd : 1 ≤ d) (h : n.toNat < 10 ^ d.toNat) : ((Lib.decDigits n.toNat).length : Int) ≤ d ∧ ton d n = List.replicate (d.toNat - (Lib.decDigits n.toNat).length) 48 ++ Lib.decDigits n.toNat := by
  obtain ⟨m, hm⟩ : ∃ m, d.toNat = m + 1 := ⟨d.toNat - 1, by omega⟩
  have := dec_fits m n.toNat (by rw [← hm]; exact h)
  rw [← hm] at this
  exact ⟨by have := this.1; omega, this.2⟩
theorem ret_sb {a b : ByteArray} {p : Bool} (h : a = b) : Ending.returned (.tuple #[.string a, .bool p]) = .returned (.tuple #[.string b, .bool p]) := by rw [h]

theorem maxz (x : Int) : max 0 x = if 0 ≤ x then x else 0 := by split <;> omega
theorem dof_fit (d n : Int) (D : List UInt8) (c : Nat) (h0 : 0 ≤ n) (hn : n ≤ 9223372036854775807) (hD : D = Lib.decDigits n.toNat) (h1 : d - (D.length : Int) = (c : Int)) (hc : c ≤ 11) (hl : D.length ≤ 20) (w : World) (htab : Lib.TabIs Tryd.prog w "internal/strconv.uint64pow10" .u64 Lib.pow10Tab) :
    Calls Tryd.prog 15 #[.int .i64 n, .int .i64 d] w fun e w' => e = .returned (.string ⟨(List.replicate c 48 ++ D).toArray⟩) ∧ Below w.heap.size w w' := by
  have HT := Lib.hid htab
  have HD := Lib.hid hD
  have hm : max 0 (d - (D.length : Int)) = (c : Int) := by omega
  have hr : (c : Int) + (D.length : Int) ≤ 100 := by omega
  clear hD htab
  go_enter Tryd.func15, Tryd.ntmps15
  go_wp2_with (first | (go_at_call 14; go_must ((with_reducible refine (itoa_at n D h0 hn HD.out _ HT.out).mono ?_); rintro e w1 ⟨rfl, b1⟩)) | (go_at_call 21; go_must ((refine (rep_any c hc _ rfl _).mono ?_); rintro e w2 ⟨rfl, rfl⟩)))
  go_ret
  exact ⟨ret_str (by rw [str_two, Array.toList_replicate]), b1⟩
theorem rep_zero (x : Int) (hx : x = 0) (w : World) :
    Calls Tryd.prog 21 #[.string ⟨#[48]⟩, .int .i64 x] w fun e w' => e = .returned (.string ⟨#[]⟩) ∧ w' = w := by
  have := rep_any 0 (by omega) x (by omega) w
  simpa using this
theorem dof_long (d n : Int) (D : List UInt8) (h0 : 0 ≤ n) (hn : n ≤ 9223372036854775807) (hD : D = Lib.decDigits n.toNat) (h1 : d < (D.length : Int)) (hd : 0 ≤ d ∧ d ≤ 100) (hl : D.length ≤ 30) (w : World) (htab : Lib.TabIs Tryd.prog w "internal/strconv.uint64pow10" .u64 Lib.pow10Tab) :
    Calls Tryd.prog 15 #[.int .i64 n, .int .i64 d] w fun e w' => e = .returned (.string ⟨D.toArray⟩) ∧ Below w.heap.size w w' := by
  have HT := Lib.hid htab
  have HD := Lib.hid hD
  obtain ⟨hd1, hd2⟩ := hd
  have hm : max 0 (d - (D.length : Int)) = 0 := by omega
  have HM := Lib.hid hm
  clear hD htab
  go_enter Tryd.func15, Tryd.ntmps15
  go_wp2_with (first | (go_at_call 14; go_must ((with_reducible refine (itoa_at n D h0 hn HD.out _ HT.out).mono ?_); rintro e w1 ⟨rfl, b1⟩)) | (go_at_call 21; go_must ((refine (rep_zero _ (by first | rfl | exact HM.out) _).mono ?_); rintro e w2 ⟨rfl, rfl⟩)))
  go_ret
  exact ⟨ret_str (by rw [str_two]; rfl), b1⟩
theorem dec_len19 (n : Int) (h0 : 0 ≤ n) (hn : n ≤ 9223372036854775807) : (Lib.decDigits n.toNat).length ≤ 19 := (dec_fits 18 n.toNat (by omega)).1
theorem iTon_yes (d n : Int) (w : World) (hn : n ≤ 9223372036854775807) (h : tonB d n = true) (htab : Lib.TabIs Tryd.prog w "internal/strconv.uint64pow10" .u64 Lib.pow10Tab) :
    Calls Tryd.prog 8 #[.int .i64 d, .int .i64 n] w fun e w' => e = .returned (.tuple #[.string ⟨(ton d n).toArray⟩, .bool true]) ∧ Below w.heap.size w w' := by
  simp only [tonB, Bool.and_eq_true, decide_eq_true_eq] at h
  obtain ⟨hz, h0, hf⟩ := h
  obtain ⟨z1, z2, z3⟩ := (szB_iff d).1 hz
  obtain ⟨e1, e2⟩ := ton_eq d n (by omega) hf
  have e3 := dec_pos n.toNat
  have HT := Lib.hid htab
  obtain ⟨D, hD⟩ : ∃ D, D = Lib.decDigits n.toNat := ⟨_, rfl⟩
  rw [← hD] at e1 e2 e3
  obtain ⟨c, hc⟩ : ∃ c : Nat, d - (D.length : Int) = (c : Int) := ⟨(d - (D.length : Int)).toNat, by omega⟩
  have HE : Hid (ton d n = List.replicate c 48 ++ D) := by show _ = _; rw [e2, show d.toNat - D.length = c by omega]
  have HD := Lib.hid hD
  have HC := Lib.hid hc
  have hno : ¬ d < (c : Int) + (D.length : Int) := by omega
  have hl : D.length ≤ 20 := by rw [hD]; have := dec_len19 n h0 hn; omega
  have hc11 : c ≤ 11 := by omega
  clear hD e2 hf htab z3 hc
  go_enter Tryd.func8, Tryd.ntmps8
  go_wp2_with (first | (go_at_call 19; go_must ((with_reducible refine (isSize_any _ _).mono ?_); rintro e w' ⟨rfl, rfl⟩)) | (go_at_call 15; go_must ((with_reducible refine (dof_fit d n D c h0 hn HD.out HC.out hc11 hl _ HT.out).mono ?_); rintro e w1 ⟨rfl, b1⟩)))
  go_ret2
  exact ⟨ret_sb (by rw [HE.out]), b1⟩
theorem iTon_no (d n : Int) (w : World) (hn : n ≤ 9223372036854775807) (h : tonB d n = false) (htab : Lib.TabIs Tryd.prog w "internal/strconv.uint64pow10" .u64 Lib.pow10Tab) :
    Calls Tryd.prog 8 #[.int .i64 d, .int .i64 n] w fun e w' => e = .returned (.tuple #[.string ⟨#[]⟩, .bool false]) ∧ Below w.heap.size w w' := by
  cases hz : szB d with
  | false =>
    clear h
    go_enter Tryd.func8, Tryd.ntmps8
    go_wp2_with (go_at_call 19; go_must ((with_reducible refine (isSize_any _ _).mono ?_); rintro e w' ⟨rfl, rfl⟩))
    go_ret2
    exact ⟨rfl, Below.refl _ _⟩
  | true =>
    obtain ⟨z1, z2, z3⟩ := (szB_iff d).1 hz
    by_cases h0 : 0 ≤ n
    · have hf : ¬ n.toNat < 10 ^ d.toNat := by simpa [tonB, hz, h0] using h
      have e1 : d < ((Lib.decDigits n.toNat).length : Int) := by have := dec_no hf; omega
      have HT := Lib.hid htab
      obtain ⟨D, hD⟩ : ∃ D, D = Lib.decDigits n.toNat := ⟨_, rfl⟩
      rw [← hD] at e1
      have HD := Lib.hid hD
      have hl : D.length ≤ 30 := by rw [hD]; have := dec_len19 n h0 hn; omega
      have HL := Lib.hid hl
      have hdd : 0 ≤ d ∧ d ≤ 100 := by omega
      have HDD := Lib.hid hdd
      have HE1 := Lib.hid e1
      clear hD hf h htab z3 hl hdd
      go_enter Tryd.func8, Tryd.ntmps8
      go_wp2_with (first | (go_at_call 19; go_must ((with_reducible refine (isSize_any _ _).mono ?_); rintro e w' ⟨rfl, rfl⟩)) | (go_at_call 15; go_must ((with_reducible refine (dof_long d n D h0 hn HD.out HE1.out HDD.out HL.out _ HT.out).mono ?_); rintro e w1 ⟨rfl, b1⟩)))
      go_ret2
      exact ⟨rfl, b1⟩
    · clear h z3
      go_enter Tryd.func8, Tryd.ntmps8
      go_wp2_with (first | (go_at_call 19; go_must ((with_reducible refine (isSize_any _ _).mono ?_); rintro e w' ⟨rfl, rfl⟩)))
      go_ret2
      exact ⟨rfl, Below.refl _ _⟩
/-- What both answer. -/
def tonv (d n : Int) : ByteArray := if tonB d n = true then ⟨(ton d n).toArray⟩ else ⟨#[]⟩
theorem tonv_yes {d n : Int} (h : tonB d n = true) : tonv d n = ⟨(ton d n).toArray⟩ := by rw [tonv, if_pos h]
theorem tonv_no {d n : Int} (h : tonB d n = false) : tonv d n = ⟨#[]⟩ := by rw [tonv, if_neg (by simp [h])]
set_option maxHeartbeats 400000 in
theorem sTon_core (d n : Int) (w : World) (hn : n ≤ 9223372036854775807) (hz : szB d = true) (h0 : 0 ≤ n) :
    Calls Tryd.prog 7 #[.int .i64 d, .int .i64 n] w fun e w' => e = .returned (.tuple #[.string (tonv d n), .bool (tonB d n)]) ∧ Below w.heap.size w w' := by
  obtain ⟨z1, z2, z3⟩ := (szB_iff d).1 hz
  have HZ := Lib.hid hz
  clear z3
  go_enter Tryd.func7, Tryd.ntmps7
  go_wp2_with (first | (go_at_call 18; go_must ((with_reducible refine (tkSize_any _ _).mono ?_); rintro e w' ⟨rfl, rfl⟩)))
  go_loopw [1, 6, 7] (fun nv t i wr => ∃ (k : Nat) (v : Int), (k : Int) ≤ d ∧ v = ((n.toNat / 10 ^ k : Nat) : Int) ∧ nv = .int .i64 v ∧ i = .int .i64 k ∧ t = .string ⟨(lw n.toNat k).toArray⟩ ∧ Below w.heap.size w wr) (fun _ _ i _ => (d - intOf i).toNat)
  case atStart => exact ⟨0, _, by simp; omega, rfl, val_int (by simp; omega), rfl, rfl, Below.refl _ _⟩
  case round =>
    obtain ⟨k, v, hk, hv, rfl, rfl, rfl, hbl⟩ := hrel
    have hle : n.toNat / 10 ^ k ≤ n.toNat := Nat.div_le_self _ _
    obtain ⟨q, hq⟩ : ∃ q, q = n.toNat / 10 ^ k := ⟨_, rfl⟩
    rw [← hq] at hv hle
    have hv0 : 0 ≤ v := by omega
    have hv1 : v ≤ 9223372036854775807 := by omega
    have hl := lw_len n.toNat k
    by_cases hlt : (k : Int) < d
    · have HX := Lib.hid (show v % 10 = (dt n.toNat k : Int) by rw [hv]; unfold dt; rw [← hq]; omega)
      have HN := Lib.hid (show v / 10 = ((n.toNat / 10 ^ (k + 1) : Nat) : Int) by rw [hv, Nat.pow_succ, ← Nat.div_div_eq_div_mul, ← hq]; omega)
      clear hv hle hq
      go_wp2_with (go_at_call 10; go_must ((with_reducible refine (num_d (dt n.toNat k) _ _ (dt_le _ _) HX.out).mono ?_); rintro e w2 ⟨rfl, b2⟩; have hb := chain hbl b2; clear b2))
      go_roundw
      case rel => exact ⟨k + 1, _, by omega, rfl, val_int HN.out, by go_num, by rw [str_two]; rfl, hb⟩
      case measure => simp [intOf]; omega
    · have hkd : k = d.toNat := by omega
      by_cases hp : 0 < v
      · have hf : ¬ n.toNat < 10 ^ d.toNat := by
          intro h
          rw [← hkd] at h
          rw [Nat.div_eq_of_lt h] at hq
          omega
        have HV := Lib.hid (show tonB d n = false by simp only [tonB, HZ.out, Bool.true_and, decide_eq_false_iff_not]; intro h; exact hf h.2)
        clear hv hle hf hkd hq
        go_wp2
        go_ret2
        exact ⟨by rw [HV.out, tonv_no HV.out]; rfl, hbl⟩
      · have hf : n.toNat < 10 ^ d.toNat := by
          have hv2 : n.toNat / 10 ^ k = 0 := by rw [← hq]; omega
          rw [← hkd]
          rcases (Nat.div_eq_zero_iff).1 hv2 with h | h
          · exact absurd h (Nat.pos_iff_ne_zero.1 (Nat.pow_pos (by omega)))
          · exact h
        have HV := Lib.hid (show tonB d n = true by simp only [tonB, HZ.out, Bool.true_and, decide_eq_true_eq]; exact ⟨h0, hf⟩)
        have HK := Lib.hid hkd
        clear hv hle hf hkd hq
        go_wp2
        go_ret2
        exact ⟨by rw [HV.out, tonv_yes HV.out, ton, ← HK.out]; rfl, hbl⟩
theorem sTon_any (d n : Int) (w : World) (hn : n ≤ 9223372036854775807) :
    Calls Tryd.prog 7 #[.int .i64 d, .int .i64 n] w fun e w' => e = .returned (.tuple #[.string (tonv d n), .bool (tonB d n)]) ∧ Below w.heap.size w w' := by
  by_cases hz : szB d = true
  · by_cases h0 : 0 ≤ n
    · exact sTon_core d n w hn hz h0
    · have HV := Lib.hid (show tonB d n = false by simp [tonB, h0])
      clear hn
      go_enter Tryd.func7, Tryd.ntmps7
      go_wp2_with (first | (go_at_call 18; go_must ((with_reducible refine (tkSize_any _ _).mono ?_); rintro e w' ⟨rfl, rfl⟩)))
      go_ret2
      exact ⟨by rw [tonv_no HV.out, HV.out]; rfl, Below.refl _ _⟩
  · have hz' : szB d = false := by simpa using hz
    have HV := Lib.hid (show tonB d n = false by simp [tonB, hz'])
    clear hn hz
    go_enter Tryd.func7, Tryd.ntmps7
    go_wp2_with (first | (go_at_call 18; go_must ((with_reducible refine (tkSize_any _ _).mono ?_); rintro e w' ⟨rfl, rfl⟩)))
    go_ret2
    exact ⟨by rw [tonv_no HV.out, HV.out]; rfl, Below.refl _ _⟩
theorem iTon_any (d n : Int) (w : World) (hn : n ≤ 9223372036854775807) (htab : Lib.TabIs Tryd.prog w "internal/strconv.uint64pow10" .u64 Lib.pow10Tab) :
    Calls Tryd.prog 8 #[.int .i64 d, .int .i64 n] w fun e w' => e = .returned (.tuple #[.string (tonv d n), .bool (tonB d n)]) ∧ Below w.heap.size w w' := by
  cases h : tonB d n with
  | true => rw [tonv_yes h]; exact iTon_yes d n w hn h htab
  | false => rw [tonv_no h]; exact iTon_no d n w hn h htab
theorem FnExactTicketOfNumber_law (d n : Int) (_w0 : (Lit.int .i64 d).wf = true) (w1 : (Lit.int .i64 n).wf = true) (w : World) (htab : Lib.TabIs Tryd.prog w "internal/strconv.uint64pow10" .u64 Lib.pow10Tab) :
    Calls Tryd.prog 4 #[.int .i64 d, .int .i64 n] w fun e w' => e = .returned (.bool true) ∧ Below w.heap.size w w' := by
  have hn : n ≤ 9223372036854775807 := by have := w1; simp [Lit.wf] at this; exact this.2
  have HT := Lib.hid htab
  clear htab w1
  go_enter Tryd.func4, Tryd.ntmps4
  go_wp2_with (first | (go_at_call 7; refine (sTon_any _ _ _ hn).mono ?_; rintro e wa ⟨rfl, hb1⟩; have H1 := chain (w := w) (by go_grown) hb1; clear hb1) | (go_at_call 8; refine (iTon_any _ _ _ hn (tab_below HT.out (by first | exact H1 | go_grown))).mono ?_; rintro e wb ⟨rfl, hb2⟩; have H2 := chain (w := w) (by go_grown) hb2; clear hb2))
  go_ret
  exact ⟨rfl, by go_grown⟩
end Go.Proofs.YtlgleghofiflaabDoor
