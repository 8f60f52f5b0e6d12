/-
  Both functions find the same first lucky ticket with a told sum.
-/
import Derived.Test.YtapeohnjjmokkaaDoorRows
import Derived.Test.YtapeohnjjmokkaaDoorMath
import Derived.Test.YtapeohnjjmokkaaDoorShelf
import Derived.WalkKit
import Derived.ProofKit
import Derived.Handy
import Derived.Lib.Hide
import Derived.Below
import Derived.Deep.QuietTactic
import Derived.BigQuiet
import Derived.Deep.RegionWith
import Derived.Deep.DrawnRows
import Derived.Outline
import Derived.WalkSpells
import Derived.WalkSmall
namespace Go.Proofs.YtapeohnjjmokkaaDoor
open Go.RowKit

theorem ret_bool {a b : Bool} (h : a = b) : Ending.returned (.bool a) = .returned (.bool b) := by rw [h]
theorem ret_str {a b : ByteArray} (h : a = b) : Ending.returned (.string a) = .returned (.string b) := by rw [h]
theorem val_int {k : IntKind} {a b : Int} (h : a = b) : Value.int k a = .int k b := by rw [h]
theorem chain {w a b : World} (h : Below w.heap.size w a) (k : Below a.heap.size a b) : Below w.heap.size w b := h.trans (k.mono h.size)

theorem in_any (n lo hi : Int) (w : World) :
    Calls Tryd.prog 7 #[.int .i64 n, .int .i64 lo, .int .i64 hi] w fun e w' => e = .returned (.bool (decide (lo ≤ n ∧ n ≤ hi))) ∧ w = w' := by
  by_cases h1 : lo ≤ n <;> by_cases h2 : n ≤ hi
  all_goals
    go_enter Tryd.func7, Tryd.ntmps7
    go_wp2
    go_ret
    exact ⟨by simp [h1, h2], rfl⟩
theorem isSize_any (d : Int) (w : World) :
    Calls Tryd.prog 9 #[.int .i64 d] w fun e w' => e = .returned (.bool (szB d)) ∧ w = w' := by
  by_cases h1 : 2 ≤ d <;> by_cases h2 : d ≤ 12 <;> by_cases h3 : d % 2 = 0
  all_goals
    go_enter Tryd.func9, Tryd.ntmps9
    go_wp2
    go_ret
    exact ⟨by simp [szB, h1, h2, h3], rfl⟩
theorem tkSize_any (d : Int) (w : World) :
    Calls Tryd.prog 6 #[.int .i64 d] w fun e w' => e = .returned (.bool (szB d)) ∧ w = w' := by
  by_cases h1 : 2 ≤ d <;> by_cases h2 : d ≤ 12 <;> by_cases h3 : d % 2 = 0
  all_goals
    go_enter Tryd.func6, Tryd.ntmps6
    go_wp2
    go_ret
    exact ⟨by simp [szB, h1, h2, h3], rfl⟩
theorem most_any (a b : Int) (w : World) :
    Calls Tryd.prog 11 #[.int .i64 a, .int .i64 b] w fun e w' => e = .returned (.int .i64 (if b < a then a else b)) ∧ w = w' := by
  by_cases h1 : b < a
  all_goals
    go_enter Tryd.func11, Tryd.ntmps11
    go_wp2
    go_ret
    exact ⟨by first | (simp; done) | simp [h1], rfl⟩
/-- The digit at place k from the end. -/
def dg (S k : Nat) : Nat := min (S - 9 * k) 9
def db (S k : Nat) : UInt8 := UInt8.ofNat (48 + dg S k)
/-- The last n digits. -/
def lst (S : Nat) : Nat → List UInt8
  | 0 => []
  | n + 1 => db S n :: lst S n
theorem lst_len (S n : Nat) : (lst S n).length = n := by
  induction n with
  | zero => rfl
  | succ n ih => simp [lst, ih]
theorem dg_le (S k : Nat) : dg S k ≤ 9 := by unfold dg; omega

theorem num_dig (S k : Nat) (w : World) :
    Calls Tryd.prog 12 #[.int .i64 (dg S k : Nat)] w fun e w' => e = .returned (.string ⟨#[db S k]⟩) ∧ Below w.heap.size w w' := by
  have h9 := dg_le S k
  have hcv : (convert 30 9 (.slice (some ⟨w.heap.size, 0, none⟩) 1 1)).run Tryd.prog (w.alloc (.cells #[.int .u8 (48 + (dg S k : Nat))] 5)) = .ok (.string ⟨[db S k].toArray⟩) (w.alloc (.cells #[.int .u8 (48 + (dg S k : Nat))] 5)) :=
    run_convert_bytes_back (P := Tryd.prog) (w.alloc (.cells #[.int .u8 (48 + (dg S k : Nat))] 5)) 30 9 5 ⟨w.heap.size, 0, none⟩ 1 [db S k] Tryd.underlying30 Tryd.underlying5 Tryd.underlying9 (by
      intro j hj
      match j, hj with
      | 0, _ => simp [Addr.add, db]; omega)
  go_enter Tryd.func12, Tryd.ntmps12
  go_wp2
  go_ret
  exact ⟨rfl, by go_grown⟩
theorem str_one (l : List UInt8) (c : UInt8) : (⟨l.toArray⟩ : ByteArray) ++ ⟨#[c]⟩ = ⟨(l ++ [c]).toArray⟩ := by
  apply ByteArray.ext
  simp [ByteArray.data_append]
theorem str_two (l m : List UInt8) : (⟨l.toArray⟩ : ByteArray) ++ ⟨m.toArray⟩ = ⟨(l ++ m).toArray⟩ := by
  apply ByteArray.ext
  simp [ByteArray.data_append]
theorem itoa_dig (S k : Nat) (w : World) :
    Calls Tryd.prog 13 #[.int .i64 (dg S k : Nat)] w fun e w' => e = .returned (.string ⟨[db S k].toArray⟩) ∧ w' = w := by
  have h9 := dg_le S k
  refine (Tryd.strconv_Itoa_small (dg S k) (by omega) w).mono ?_
  rintro e w' ⟨rfl, rfl⟩
  refine ⟨?_, rfl⟩
  have : Lib.decDigits (dg S k) = [db S k] := by
    rw [Lib.decDigits, dif_pos (by omega)]; rfl
  rw [this]

theorem most_dg (S n : Nat) (x : Int) (w : World) (hx : x = ((min S (9 * (n + 1)) : Nat) : Int) - 9 * (n : Int)) :
    Calls Tryd.prog 11 #[.int .i64 0, .int .i64 x] w fun e w' => e = .returned (.int .i64 (dg S n : Nat)) ∧ w = w' := by
  refine (most_any 0 x w).mono ?_
  rintro e w' ⟨rfl, rfl⟩
  refine ⟨?_, rfl⟩
  congr 2
  unfold dg
  split <;> omega
theorem app_len {S h m : Nat} {l : List UInt8} (h1 : l ++ lst S m = lst S h) : l.length + m = h := by
  have := congrArg List.length h1
  simpa [lst_len] using this
theorem app_next {S h n : Nat} {l : List UInt8} (h1 : l ++ lst S (n + 1) = lst S h) : (l ++ [db S n]) ++ lst S n = lst S h := by
  rw [← h1, List.append_assoc]; rfl
theorem app_end {S h : Nat} {l : List UInt8} (h1 : l ++ lst S 0 = lst S h) : l = lst S h := by
  rw [← h1]; simp [lst]

set_option maxHeartbeats 400000 in
theorem tkFirst_any (S h : Nat) (hS : S ≤ 9 * h) (hh : h ≤ 6) (w : World) :
    Calls Tryd.prog 8 #[.int .i64 h, .int .i64 S] w fun e w' => e = .returned (.string ⟨(lst S h).toArray⟩) ∧ Below w.heap.size w w' := by
  go_enter Tryd.func8, Tryd.ntmps8
  go_wp2
  go_loopw [1, 5, 6] (fun sm t i wr => ∃ (m : Nat) (l : List UInt8) (k σ : Int), m ≤ h ∧ k = (m : Int) - 1 ∧ σ = ((min S (9 * m) : Nat) : Int) ∧ sm = .int .i64 σ ∧ i = .int .i64 k ∧ t = .string ⟨l.toArray⟩ ∧ l ++ lst S m = lst S h ∧ Below w.heap.size w wr) (fun _ _ i _ => (intOf i + 1).toNat)
  case atStart => exact ⟨h, [], _, _, Nat.le_refl _, rfl, rfl, val_int (by omega), rfl, rfl, rfl, Below.refl _ _⟩
  case round =>
    obtain ⟨m, l, k, σ, hm, hk, hσ, rfl, rfl, rfl, happ, hbl⟩ := hrel
    have hl := app_len happ
    have HA := Lib.hid happ
    clear happ
    by_cases hm0 : m = 0
    · subst hm0
      have hk1 : k = -1 := by omega
      subst hk1
      clear hk hσ
      have HE := Lib.hid (app_end HA.out)
      go_wp2
      go_ret
      exact ⟨ret_str (by rw [HE.out]), hbl⟩
    · obtain ⟨n, rfl⟩ : ∃ n, m = n + 1 := ⟨m - 1, by omega⟩
      have hk0 : 0 ≤ k := by omega
      have hk5 : k ≤ 5 := by omega
      have hs0 : 0 ≤ σ := by omega
      have hs5 : σ ≤ 54 := by omega
      have hl6 : l.length ≤ 6 := by omega
      have hd9 := dg_le S n
      have hkn : k = (n : Int) := by omega
      have HX := Lib.hid (show σ - 9 * k = ((min S (9 * (n + 1)) : Nat) : Int) - 9 * (n : Int) by omega)
      have HS := Lib.hid (show σ - (dg S n : Int) = ((min S (9 * n) : Nat) : Int) by rw [hσ]; unfold dg; omega)
      have HK := Lib.hid hkn
      clear hσ hk hkn
      go_wp2_with (first | (go_at_call 11; go_must ((with_reducible refine (most_dg S n _ _ HX.out).mono ?_); rintro e w1 ⟨rfl, rfl⟩)) | (go_at_call 12; go_must ((with_reducible refine (num_dig S n _).mono ?_); rintro e w2 ⟨rfl, b2⟩; have hb := chain hbl b2; clear b2)))
      go_roundw
      case rel => exact ⟨n, l ++ [db S n], _, _, by omega, by have := HK.out; omega, rfl, val_int HS.out, rfl, by rw [str_one], app_next HA.out, hb⟩
      case measure => simp [intOf]; omega

theorem itoa_at (S k : Nat) (x : Int) (w : World) (hx : x = (dg S k : Int)) :
    Calls Tryd.prog 13 #[.int .i64 x] w fun e w' => e = .returned (.string ⟨[db S k].toArray⟩) ∧ w' = w := by
  subst hx; exact itoa_dig S k w
set_option maxHeartbeats 400000 in
theorem least_any (S h : Nat) (hS : S ≤ 9 * h) (hh : h ≤ 6) (w : World) :
    Calls Tryd.prog 10 #[.int .i64 h, .int .i64 S] w fun e w' => e = .returned (.string ⟨(lst S h).toArray⟩) ∧ Below w.heap.size w w' := by
  go_enter Tryd.func10, Tryd.ntmps10
  go_wp2
  go_loopw [1, 5, 8] (fun sm t i wr => ∃ (n : Nat) (σ : Int), n ≤ h ∧ σ = ((S - 9 * n : Nat) : Int) ∧ sm = .int .i64 σ ∧ i = .int .i64 n ∧ t = .string ⟨(lst S n).toArray⟩ ∧ Below w.heap.size w wr) (fun _ _ i _ => h - (intOf i).toNat)
  case atStart => exact ⟨0, _, Nat.zero_le _, rfl, val_int (by omega), rfl, rfl, Below.refl _ _⟩
  case round =>
    obtain ⟨n, σ, hn, hσ, rfl, rfl, rfl, hbl⟩ := hrel
    have hl := lst_len S n
    by_cases hlt : n < h
    · have hs0 : 0 ≤ σ := by omega
      have hs5 : σ ≤ 54 := by omega
      have hd9 := dg_le S n
      have HS := Lib.hid (show σ - (dg S n : Int) = ((S - 9 * (n + 1) : Nat) : Int) by rw [hσ]; unfold dg; omega)
      have HM := Lib.hid (show (dg S n : Int) = min σ 9 by rw [hσ]; unfold dg; omega)
      clear hσ
      go_wp2_with (go_at_call 13; go_must ((with_reducible refine (itoa_at S n _ _ HM.out.symm).mono ?_); rintro e w2 ⟨rfl, rfl⟩))
      go_roundw
      case rel => exact ⟨n + 1, _, by omega, rfl, val_int (by have h1 := HS.out; have h2 := HM.out; omega), by go_num, by rw [str_two]; rfl, hbl⟩
      case measure => simp [intOf]; omega
    · have he : n = h := by omega
      subst he
      go_wp2
      go_ret
      exact ⟨rfl, hbl⟩
/-- There is a first one. -/
def fluB (d sm : Int) : Bool := szB d && decide (0 ≤ sm ∧ sm ≤ 9 * (d / 2))
theorem tkF (d sm : Int) (w : World) (h : fluB d sm = true) :
    Calls Tryd.prog 8 #[.int .i64 (d / 2), .int .i64 sm] w fun e w' => e = .returned (.string ⟨(lst sm.toNat (d / 2).toNat).toArray⟩) ∧ Below w.heap.size w w' := by
  simp [fluB, szB] at h
  have := tkFirst_any sm.toNat (d / 2).toNat (by omega) (by omega) w
  rwa [show ((sm.toNat : Nat) : Int) = sm by omega, show (((d / 2).toNat : Nat) : Int) = d / 2 by omega] at this
theorem leH (d sm : Int) (w : World) (h : fluB d sm = true) :
    Calls Tryd.prog 10 #[.int .i64 (d / 2), .int .i64 sm] w fun e w' => e = .returned (.string ⟨(lst sm.toNat (d / 2).toNat).toArray⟩) ∧ Below w.heap.size w w' := by
  simp [fluB, szB] at h
  have := least_any sm.toNat (d / 2).toNat (by omega) (by omega) w
  rwa [show ((sm.toNat : Nat) : Int) = sm by omega, show (((d / 2).toNat : Nat) : Int) = d / 2 by omega] at this
/-- What both answer. -/
def flu (d sm : Int) : List UInt8 := lst sm.toNat (d / 2).toNat ++ lst sm.toNat (d / 2).toNat

theorem sFlu_yes (d sm : Int) (w : World) (h : fluB d sm = true) :
    Calls Tryd.prog 4 #[.int .i64 d, .int .i64 sm] w fun e w' => e = .returned (.tuple #[.string ⟨(flu d sm).toArray⟩, .bool true]) ∧ Below w.heap.size w w' := by
  have hq := h
  simp [fluB] at hq
  obtain ⟨hz, h0, h9⟩ := hq
  have hzz := (szB_iff d).1 hz
  have hin : decide (sm ≤ 9 * d / 2) = true := by simp; omega
  have l0 := lst_len sm.toNat (d / 2).toNat
  have HF := Lib.hid h
  obtain ⟨z1, z2, z3⟩ := hzz
  clear h hz z3
  have hz : szB d = true := by have := HF.out; simp [fluB] at this; exact this.1
  go_enter Tryd.func4, Tryd.ntmps4
  go_wp2_with (first | (go_at_call 6; go_must ((with_reducible refine (tkSize_any _ _).mono ?_); rintro e w' ⟨rfl, rfl⟩)) | (go_at_call 7; go_must ((with_reducible refine (in_any _ _ _ _).mono ?_); rintro e w' ⟨rfl, rfl⟩)) | (go_at_call 8; go_must ((with_reducible refine (tkF d sm _ HF.out).mono ?_); rintro e w1 ⟨rfl, b1⟩; first | have H2 := chain H1 b1 | have H1 := b1)))
  all_goals go_ret2
  all_goals exact ⟨by rw [str_two]; rfl, H2⟩
theorem iFlu_yes (d sm : Int) (w : World) (h : fluB d sm = true) :
    Calls Tryd.prog 5 #[.int .i64 d, .int .i64 sm] w fun e w' => e = .returned (.tuple #[.string ⟨(flu d sm).toArray⟩, .bool true]) ∧ Below w.heap.size w w' := by
  have hq := h
  simp [fluB] at hq
  obtain ⟨hz, h0, h9⟩ := hq
  have hzz := (szB_iff d).1 hz
  have l0 := lst_len sm.toNat (d / 2).toNat
  have HF := Lib.hid h
  obtain ⟨z1, z2, z3⟩ := hzz
  clear h z3
  go_enter Tryd.func5, Tryd.ntmps5
  go_wp2_with (first | (go_at_call 9; go_must ((with_reducible refine (isSize_any _ _).mono ?_); rintro e w' ⟨rfl, rfl⟩)) | (go_at_call 10; go_must ((with_reducible refine (leH d sm _ HF.out).mono ?_); rintro e w1 ⟨rfl, b1⟩; have H1 := b1)))
  all_goals go_ret2
  all_goals exact ⟨by rw [str_two]; rfl, H1⟩
theorem sFlu_no (d sm : Int) (w : World) (h : fluB d sm = false) :
    Calls Tryd.prog 4 #[.int .i64 d, .int .i64 sm] w fun e w' => e = .returned (.tuple #[.string ⟨#[]⟩, .bool false]) ∧ Below w.heap.size w w' := by
  cases hz : szB d with
  | false =>
    clear h
    go_enter Tryd.func4, Tryd.ntmps4
    go_wp2_with (go_at_call 6; go_must ((with_reducible refine (tkSize_any _ _).mono ?_); rintro e w' ⟨rfl, rfl⟩))
    go_ret2
    exact ⟨rfl, Below.refl _ _⟩
  | true =>
    have hzz := (szB_iff d).1 hz
    obtain ⟨z1, z2, z3⟩ := hzz
    by_cases h0 : 0 ≤ sm
    · have hin : decide (sm ≤ 9 * d / 2) = false := by simp [fluB, hz, h0] at h; simp; omega
      clear h z3
      go_enter Tryd.func4, Tryd.ntmps4
      go_wp2_with (first | (go_at_call 6; go_must ((with_reducible refine (tkSize_any _ _).mono ?_); rintro e w' ⟨rfl, rfl⟩)) | (go_at_call 7; go_must ((with_reducible refine (in_any _ _ _ _).mono ?_); rintro e w' ⟨rfl, rfl⟩)))
      go_ret2
      exact ⟨rfl, Below.refl _ _⟩
    · have hin : decide (0 ≤ sm) = false := by simp; omega
      clear h z3
      go_enter Tryd.func4, Tryd.ntmps4
      go_wp2_with (first | (go_at_call 6; go_must ((with_reducible refine (tkSize_any _ _).mono ?_); rintro e w' ⟨rfl, rfl⟩)) | (go_at_call 7; go_must ((with_reducible refine (in_any _ _ _ _).mono ?_); rintro e w' ⟨rfl, rfl⟩)))
      go_ret2
      exact ⟨rfl, Below.refl _ _⟩
theorem iFlu_no (d sm : Int) (w : World) (h : fluB d sm = false) :
    Calls Tryd.prog 5 #[.int .i64 d, .int .i64 sm] w fun e w' => e = .returned (.tuple #[.string ⟨#[]⟩, .bool false]) ∧ Below w.heap.size w w' := by
  cases hz : szB d with
  | false =>
    clear h
    go_enter Tryd.func5, Tryd.ntmps5
    go_wp2_with (go_at_call 9; go_must ((with_reducible refine (isSize_any _ _).mono ?_); rintro e w' ⟨rfl, rfl⟩))
    go_ret2
    exact ⟨rfl, Below.refl _ _⟩
  | true =>
    have hzz := (szB_iff d).1 hz
    obtain ⟨z1, z2, z3⟩ := hzz
    by_cases h0 : 0 ≤ sm
    · have hin : 9 * (d / 2) < sm := by simp [fluB, hz, h0] at h; omega
      clear h z3
      go_enter Tryd.func5, Tryd.ntmps5
      go_wp2_with (first | (go_at_call 9; go_must ((with_reducible refine (isSize_any _ _).mono ?_); rintro e w' ⟨rfl, rfl⟩)))
      go_ret2
      exact ⟨rfl, Below.refl _ _⟩
    · clear h z3
      go_enter Tryd.func5, Tryd.ntmps5
      go_wp2_with (first | (go_at_call 9; go_must ((with_reducible refine (isSize_any _ _).mono ?_); rintro e w' ⟨rfl, rfl⟩)))
      go_ret2
      exact ⟨rfl, Below.refl _ _⟩
/-- What both answer, told or not. -/
def flv (d sm : Int) : ByteArray := if fluB d sm = true then ⟨(flu d sm).toArray⟩ else ⟨#[]⟩
theorem sFlu_any (d sm : Int) (w : World) :
    Calls Tryd.prog 4 #[.int .i64 d, .int .i64 sm] w fun e w' => e = .returned (.tuple #[.string (flv d sm), .bool (fluB d sm)]) ∧ Below w.heap.size w w' := by
  cases h : fluB d sm with
  | true => rw [flv, if_pos h]; exact sFlu_yes d sm w h
  | false => rw [flv, if_neg (by simp [h])]; exact sFlu_no d sm w h
theorem iFlu_any (d sm : Int) (w : World) :
    Calls Tryd.prog 5 #[.int .i64 d, .int .i64 sm] w fun e w' => e = .returned (.tuple #[.string (flv d sm), .bool (fluB d sm)]) ∧ Below w.heap.size w w' := by
  cases h : fluB d sm with
  | true => rw [flv, if_pos h]; exact iFlu_yes d sm w h
  | false => rw [flv, if_neg (by simp [h])]; exact iFlu_no d sm w h
theorem FnExactFirstLuckyOf_law (d sm : Int) (_w0 : (Lit.int .i64 d).wf = true) (_w1 : (Lit.int .i64 sm).wf = true) (w : World) :
    Calls Tryd.prog 3 #[.int .i64 d, .int .i64 sm] w fun e w' => e = .returned (.bool true) ∧ Below w.heap.size w w' := by
  go_enter Tryd.func3, Tryd.ntmps3
  go_wp2_with (first | (go_at_call 4; refine (sFlu_any _ _ _).mono ?_; rintro e w1 ⟨rfl, hb1⟩; have H1 := chain (w := w) (by go_grown) hb1; clear hb1) | (go_at_call 5; refine (iFlu_any _ _ _).mono ?_; rintro e w2 ⟨rfl, hb2⟩; have H2 := chain (w := w) (by go_grown) hb2; clear hb2))
  go_ret
  exact ⟨rfl, by go_grown⟩
end Go.Proofs.YtapeohnjjmokkaaDoor
