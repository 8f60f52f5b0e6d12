/-
  Contracts of the leaf functions of the chapter on digits.
-/
import Derived.Test.YtdgdjgefjhkpbaaDoorRows
import Derived.Test.YtdgdjgefjhkpbaaDoorDiMath
import Derived.WalkKit
import Derived.ProofKit
import Derived.Handy
import Derived.Lib.Hide
import Derived.IntWalk
import Derived.Deep.QuietTactic
import Derived.BigQuiet
import Derived.WalkSpells
import Derived.WalkSmall
import Derived.Outline
import Derived.Below
import Derived.Deep.RegionWith
import Derived.Deep.RegionHeld3
import Derived.Shelf.Abstract
namespace Go.Proofs.YtdgdjgefjhkpbaaDoor
open Go.RowKit

theorem ret_int {k : IntKind} {a b : Int} (h : a = b) : Ending.returned (.int k a) = .returned (.int k b) := by rw [h]
theorem ret_bool {a b : Bool} (h : a = b) : Ending.returned (.bool a) = .returned (.bool b) := by rw [h]
theorem val_int {k : IntKind} {a b : Int} (h : a = b) : Value.int k a = .int k b := by rw [h]
theorem ret_ib {a b : Int} {p q : Bool} (h : a = b) (g : p = q) : Ending.returned (.tuple #[.int .i64 a, .bool p]) = .returned (.tuple #[.int .i64 b, .bool q]) := by rw [h, g]
theorem ret_iib {a b c d : Int} {p q : Bool} (h : a = b) (k : c = d) (g : p = q) : Ending.returned (.tuple #[.int .i64 a, .int .i64 c, .bool p]) = .returned (.tuple #[.int .i64 b, .int .i64 d, .bool q]) := by rw [h, k, g]
theorem ret_ii {a b c d : Int} (h : a = b) (k : c = d) : Ending.returned (.tuple #[.int .i64 a, .int .i64 c]) = .returned (.tuple #[.int .i64 b, .int .i64 d]) := by rw [h, k]
theorem chain {w a b : World} (h : Below w.heap.size w a) (k : Below a.heap.size a b) : Below w.heap.size w b := h.trans (k.mono h.size)
theorem below_drewN {B : Nat} {a w : World} (h : Below B a w) (n : Nat) : Below B a (w.drewN n) := ⟨h.os, h.tape, h.output, h.size, h.block⟩
theorem below_drw {B : Nat} {a w : World} (h : Below B a w) : Below B a w.drew := ⟨h.os, h.tape, h.output, h.size, h.block⟩

/-- A block of the call's own, known whole. -/
def Blk (w : World) (b : Nat) (cs : Array Value) (T : TypeId) : Prop := w.heap[b]? = some (.cells cs T (0, 0))
theorem Blk.new (w : World) (cs : Array Value) (T : TypeId) : Blk (w.alloc (.cells cs T)) w.heap.size cs T := by
  show (w.heap.push _)[w.heap.size]? = _
  simp
theorem Blk.lt {w : World} {b : Nat} {cs : Array Value} {T : TypeId} (h : Blk w b cs T) : b < w.heap.size := (Array.getElem?_eq_some_iff.1 h).1
theorem Blk.keep {a c : World} {b : Nat} {cs : Array Value} {T : TypeId} (h : Blk a b cs T) (k : Below a.heap.size a c) : Blk c b cs T := by
  unfold Blk; rw [k.block b h.lt]; exact h
theorem Blk.cell {w : World} {b : Nat} {cs : Array Value} {T : TypeId} (h : Blk w b cs T) (j : Nat) : w.cell? ⟨b, j, none⟩ = cs[j]? := Lib.cell_of_heap h j
theorem Blk.frozen {w : World} {b : Nat} {cs : Array Value} {T : TypeId} (h : Blk w b cs T) (j : Nat) : w.frozen? ⟨b, j, none⟩ = false := Lib.frozen_of_heap h j
theorem Blk.alloc {a : World} {b : Nat} {cs : Array Value} {T : TypeId} (h : Blk a b cs T) (o : Obj) : Blk (a.alloc o) b cs T := h.keep ((Below.refl _ _).alloc (Nat.le_refl _) o)
theorem Blk.drewN {a : World} {b : Nat} {cs : Array Value} {T : TypeId} (h : Blk a b cs T) (n : Nat) : Blk (a.drewN n) b cs T := h
theorem Blk.drw {a : World} {b : Nat} {cs : Array Value} {T : TypeId} (h : Blk a b cs T) : Blk a.drew b cs T := h

theorem in_any (n lo hi : Int) (w : World) :
    Calls Tryd.prog 18 #[.int .i64 n, .int .i64 lo, .int .i64 hi] w fun e w' => e = .returned (.bool (decide (lo ≤ n ∧ n ≤ hi))) ∧ w = w' := by
  by_cases h1 : lo ≤ n <;> by_cases h2 : n ≤ hi
  all_goals
    go_enter Tryd.func18, Tryd.ntmps18
    go_wp2
    go_ret
    exact ⟨by simp [h1, h2], rfl⟩
theorem diGood_any (n : Int) (w : World) :
    Calls Tryd.prog 23 #[.int .i64 n] w fun e w' => e = .returned (.bool (nuB n)) ∧ w = w' := by
  go_enter Tryd.func23, Tryd.ntmps23
  go_wp2_with (go_at_call 18; refine (in_any _ _ _ _).mono ?_; rintro e w' ⟨rfl, rfl⟩)
  go_ret
  exact ⟨by simp [nuB], rfl⟩
theorem isWritable_any (n : Int) (w : World) :
    Calls Tryd.prog 32 #[.int .i64 n] w fun e w' => e = .returned (.bool (nuB n)) ∧ w = w' := by
  by_cases h1 : 0 ≤ n <;> by_cases h2 : n ≤ 1000000000000
  all_goals
    go_enter Tryd.func32, Tryd.ntmps32
    go_wp2
    go_ret
    exact ⟨by simp [nuB, h1, h2], rfl⟩
theorem l1Least_any (a b : Int) (w : World) :
    Calls Tryd.prog 39 #[.int .i64 a, .int .i64 b] w fun e w' => e = .returned (.int .i64 (min a b)) ∧ w = w' := by
  by_cases h : a < b
  all_goals
    have HM : Hid (min a b = if a < b then a else b) := by show _ = _; split <;> omega
    first | rw [if_pos h] at HM | rw [if_neg h] at HM
    go_enter Tryd.func39, Tryd.ntmps39
    go_wp2
    go_ret
    exact ⟨ret_int HM.out.symm, rfl⟩
/-- The program's count. -/
theorem digitsWritten_any (n : Int) (w : World) (h0 : 0 ≤ n) (h1 : n ≤ 1000000000000) :
    Calls Tryd.prog 34 #[.int .i64 n] w fun e w' => e = .returned (.int .i64 (wr n)) ∧ w = w' := by
  go_enter Tryd.func34, Tryd.ntmps34
  go_wp2
  go_loop [3, 4] (fun s t => ∃ (j : Nat) (T S : Int), j ≤ 13 ∧ Hid (T = tn j) ∧ Hid (S = wp n j) ∧ s = .int .i64 S ∧ t = .int .i64 T) (fun _ t => (10000000000000 - intOf t).toNat)
  case atStart => exact ⟨0, 1, 0, by omega, rfl, rfl, rfl, rfl⟩
  case round =>
    obtain ⟨j, T, S, hj, HT, HS, rfl, rfl⟩ := hrel
    have hT1 : 1 ≤ T := by rw [HT.out]; exact tn_pos j
    have hSb : 0 ≤ S ∧ S ≤ 13000000000000 := by rw [HS.out]; exact wp_13 h0 h1 hj
    obtain ⟨hS0, hS1⟩ := hSb
    by_cases hlt : T ≤ n
    · have hj13 : j < 13 := tn_lt (n := n) (by rw [← HT.out]; exact hlt) h1
      have HS' : Hid (S + (n - T + 1) = wp n (j + 1)) := by show _ = _; rw [wp_go (by rw [← HT.out]; exact hlt), HS.out, HT.out]
      have HT' : Hid (T * 10 = tn (j + 1)) := by show _ = _; rw [tn_succ, HT.out]
      go_wp2
      go_round
      case rel => exact ⟨j + 1, _, _, by omega, HT', HS', rfl, rfl⟩
      case measure => simp [intOf]; omega
    · have HR : Hid (S = wr n) := by show _ = _; rw [HS.out]; exact wp_all (by rw [← HT.out]; omega) hj
      go_wp2
      go_ret
      exact ⟨ret_int HR.out, rfl⟩
/-- The model's count. -/
theorem diWritten_any (n : Int) (w : World) (h0 : 0 ≤ n) (h1 : n ≤ 1000000000000) :
    Calls Tryd.prog 31 #[.int .i64 n] w fun e w' => e = .returned (.int .i64 (wr n)) ∧ w = w' := by
  go_enter Tryd.func31, Tryd.ntmps31
  go_wp2
  go_loop [3, 4, 5] (fun s t d => ∃ (j : Nat) (T S : Int), j ≤ 13 ∧ Hid (T = tn j) ∧ Hid (S = wp (min n (T - 1)) j) ∧ s = .int .i64 S ∧ t = .int .i64 T ∧ d = .int .i64 ((j : Int) + 1)) (fun _ t _ => (10000000000000 - intOf t).toNat)
  case atStart => exact ⟨0, 1, 0, by omega, rfl, rfl, rfl, rfl, rfl⟩
  case round =>
    obtain ⟨j, T, S, hj, HT, HS, rfl, rfl, rfl⟩ := hrel
    have hT1 : 1 ≤ T := by rw [HT.out]; exact tn_pos j
    have hSb : 0 ≤ S ∧ S ≤ 13000000000000 := by rw [HS.out]; exact wp_13 (by omega) (by omega) hj
    obtain ⟨hS0, hS1⟩ := hSb
    by_cases hlt : T ≤ n
    · have hj13 : j < 13 := tn_lt (n := n) (by rw [← HT.out]; exact hlt) h1
      obtain ⟨m, hm⟩ : ∃ m, min n (T * 10 - 1) = m := ⟨_, rfl⟩
      have hm1 : T ≤ m := by omega
      have hm2 : m ≤ n := by omega
      have HM := Lib.hid hm
      have hp : 0 ≤ (m - T + 1) * ((j : Int) + 1) ∧ (m - T + 1) * ((j : Int) + 1) ≤ 1000000000000 * 13 := ⟨Int.mul_nonneg (by omega) (by omega), Int.mul_le_mul (by omega) (by omega) (by omega) (by omega)⟩
      obtain ⟨hp1, hp2⟩ := hp
      have HS' : Hid (S + (m - T + 1) * ((j : Int) + 1) = wp (min n (T * 10 - 1)) (j + 1)) := by
        show _ = _
        rw [hm, wp_go (by rw [← HT.out]; omega), HS.out, ← HT.out, show min n (T - 1) = T - 1 by omega, wp_shift (m := T - 1) (m' := m) j (by omega) (fun k hk => by
          have := tn_mono (show k + 1 ≤ j by omega)
          rw [← HT.out, tn_succ] at this
          have := tn_pos k
          omega), Int.mul_add, Int.mul_comm (m - T + 1) (j : Int), show m - (T - 1) = m - T + 1 by omega]
        omega
      have HT' : Hid (T * 10 = tn (j + 1)) := by show _ = _; rw [tn_succ, HT.out]
      clear hm
      go_wp2_with (go_at_call 39; refine (l1Least_any _ _ _).mono ?_; rintro e w' ⟨rfl, rfl⟩; rw [HM.out])
      go_round
      case rel => exact ⟨j + 1, _, _, by omega, HT', HS', rfl, rfl, val_int (by omega)⟩
      case measure => simp [intOf]; omega
    · have HR : Hid (S = wr n) := by show _ = _; rw [HS.out, show min n (T - 1) = n by omega]; exact wp_all (by rw [← HT.out]; omega) hj
      go_wp2
      go_ret
      exact ⟨ret_int HR.out, rfl⟩
end Go.Proofs.YtdgdjgefjhkpbaaDoor
