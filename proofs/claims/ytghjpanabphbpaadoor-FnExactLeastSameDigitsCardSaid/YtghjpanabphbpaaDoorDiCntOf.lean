/-
  Contracts that look into the rows of counts.
-/
import Derived.Test.YtghjpanabphbpaaDoorDiCnts
import Derived.WalkSmall
namespace Go.Proofs.YtghjpanabphbpaaDoor
open Go.RowKit
set_option maxRecDepth 100000

theorem cOf_any (D B n : Nat) (v : Value) (s : Int) (w : World) (hn : n ≤ D) (h : Cnts w v D B) :
    Calls Tryd.prog 85 #[v, .int .i64 n, .int .i64 s] w fun e w' => e = .returned (.int .i64 (Wi n s)) ∧ w = w' := by
  obtain ⟨g, cap, rfl, hg, _, hh⟩ := h
  obtain ⟨gi, hcell, hrow, _⟩ := hh n hn
  clear hh
  have hn1 : (n : Int) < (D : Int) + 1 := by omega
  by_cases h0 : s < 0
  · have E := Lib.hid (Wi_out (n := n) (s := s) (by omega))
    have hd : decide (s < 0) = true := by simpa using h0
    go_enter Tryd.func85, Tryd.ntmps85
    go_wp2
    go_ret
    exact ⟨ret_int E.out.symm, rfl⟩
  · obtain ⟨k, rfl⟩ := Int.eq_ofNat_of_zero_le (show 0 ≤ s by omega)
    have hd : decide ((k : Int) < 0) = false := by simp
    by_cases h1 : k < 9 * n + 1
    · have E := Lib.hid (Wi_in (n := n) (s := (k : Int)) (by omega))
      have hc := hrow.cell h1
      have h2 : (k : Int) < 9 * (n : Int) + 1 := by omega
      go_enter Tryd.func85, Tryd.ntmps85
      go_wp2
      go_ret
      exact ⟨ret_int (by rw [E.out]; rfl), rfl⟩
    · have E := Lib.hid (Wi_out (n := n) (s := (k : Int)) (by omega))
      have h2 : 9 * (n : Int) + 1 ≤ (k : Int) := by omega
      go_enter Tryd.func85, Tryd.ntmps85
      go_wp2
      go_ret
      exact ⟨ret_int E.out.symm, rfl⟩
theorem chain' {w a b : World} (h : Below w.heap.size w a) (k : Below a.heap.size a b) : Below w.heap.size w b := h.trans (k.mono h.size)
end Go.Proofs.YtghjpanabphbpaaDoor
