/-
  Least numbers: how many numbers of so many digits have a sum; the program's side of LeastOfDigits and GreatestOfDigits.
-/
import Derived.Test.YtghjpanabphbpaaDoorLeLeaf
import Derived.Test.YtghjpanabphbpaaDoorLeCd
import Derived.Test.YtghjpanabphbpaaDoorDiCntOf
namespace Go.Proofs.YtghjpanabphbpaaDoor
open Go.RowKit

theorem cOfV_any (D B n : Nat) (v : Value) (x s : Int) (w : World) (hx : x = (n : Int)) (hn : n ≤ D) (h : Cnts w v D B) :
    Calls Tryd.prog 85 #[v, .int .i64 x, .int .i64 s] w fun e w' => e = .returned (.int .i64 (V n s)) ∧ w = w' := by
  subst hx
  have := cOf_any D B n v s w hn h
  rwa [Wi_V] at this
theorem countOf_any (d : Nat) (s : Int) (w : World) (h1 : 1 ≤ d) (h2 : d ≤ 12) :
    Calls Tryd.prog 66 #[.int .i64 d, .int .i64 s] w fun e w' => e = .returned (.int .i64 (cN d s)) ∧ Below w.heap.size w w' := by
  have HC := Lib.hid (fun W => cnts_any d h2 W)
  have hv1 := V_12 h2 s
  have hv2 := V_12 (n := d - 1) (by omega) s
  obtain ⟨A, hA⟩ : ∃ A, V d s = A := ⟨_, rfl⟩
  obtain ⟨B, hB⟩ : ∃ B, V (d - 1) s = B := ⟨_, rfl⟩
  rw [hA] at hv1
  rw [hB] at hv2
  obtain ⟨a0, a1⟩ := hv1
  obtain ⟨b0, b1⟩ := hv2
  have HO1 : Hid (∀ (W : World) (v : Value) (B : Nat), Cnts W v d B → Calls Tryd.prog 85 #[v, .int .i64 d, .int .i64 s] W fun e w' => e = .returned (.int .i64 A) ∧ W = w') := fun W v B h => by
    rw [← hA]; exact cOfV_any d B d v d s W rfl (Nat.le_refl _) h
  have HO2 : Hid (∀ (W : World) (v : Value) (b : Nat), Cnts W v d b → Calls Tryd.prog 85 #[v, .int .i64 ((d : Int) - 1), .int .i64 s] W fun e w' => e = .returned (.int .i64 B) ∧ W = w') := fun W v b h => by
    rw [← hB]; exact cOfV_any d b (d - 1) v _ s W (by omega) (by omega) h
  by_cases hd : d = 1
  · have HX : Hid (A = cN d s) := by show _ = _; unfold cN; rw [if_pos hd, hA]
    clear hA hB
    subst hd
    have HC1 : Hid (∀ W, Calls Tryd.prog 84 #[.int .i64 1] W fun e w' => ∃ v, e = .returned v ∧ Cnts w' v 1 W.heap.size ∧ Below W.heap.size W w') := HC.out
    have HO3 : Hid (∀ (W : World) (v : Value) (B : Nat), Cnts W v 1 B → Calls Tryd.prog 85 #[v, .int .i64 1, .int .i64 s] W fun e w' => e = .returned (.int .i64 A) ∧ W = w') := HO1.out
    show Calls Tryd.prog 66 #[.int .i64 1, .int .i64 s] w fun e w' => e = .returned (.int .i64 (cN 1 s)) ∧ Below w.heap.size w w'
    clear HC HO1 HO2
    go_enter Tryd.func66, Tryd.ntmps66
    go_wp2_with (first | (go_at_call 84; (with_reducible refine (HC1.out _).mono ?_); rintro e w1 ⟨v, rfl, hc, b1⟩; have HCC := Lib.hid hc; clear hc) | (go_at_call 85; (with_reducible refine (HO3.out _ _ _ HCC.out).mono ?_); rintro e w' ⟨rfl, rfl⟩))
    go_ret
    exact ⟨ret_int HX.out, b1⟩
  · have HX : Hid (A - B = cN d s) := by show _ = _; unfold cN; rw [if_neg hd, hA, hB]
    have hd' : ¬ (d : Int) = 1 := by omega
    clear hA hB hd
    go_enter Tryd.func66, Tryd.ntmps66
    go_wp2_with (first | (go_at_call 84; (with_reducible refine (HC.out _).mono ?_); rintro e w1 ⟨v, rfl, hc, b1⟩; have HCC := Lib.hid hc; clear hc) | (go_at_call 85; (first | (with_reducible refine (HO1.out _ _ _ HCC.out).mono ?_) | (with_reducible refine (HO2.out _ _ _ HCC.out).mono ?_)); rintro e w' ⟨rfl, rfl⟩))
    go_ret
    exact ⟨ret_int HX.out, b1⟩
end Go.Proofs.YtghjpanabphbpaaDoor
