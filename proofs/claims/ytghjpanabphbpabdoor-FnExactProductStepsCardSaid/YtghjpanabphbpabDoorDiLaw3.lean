/-
  The laws of DigitSum, DigitProduct, DigitRoot, ProductEnd and DigitAtPlace.
-/
import Derived.Test.YtghjpanabphbpabDoorDiSum
import Derived.Test.YtghjpanabphbpabDoorDiNap
namespace Go.Proofs.YtghjpanabphbpabDoor
open Go.RowKit

theorem itr_bd {f : Int → Int} (hf : Lessens f) {n : Int} (h0 : 0 ≤ n) : ∀ k : Nat, (∀ j, j < k → 9 < itr f n j) → 0 ≤ itr f n k ∧ itr f n k + (k : Int) ≤ n := by
  intro k
  induction k with
  | zero => intro _; exact ⟨h0, by simp [itr]⟩
  | succ k ih =>
    intro h
    have h1 := ih (fun j hj => h j (by omega))
    have h2 := h k (by omega)
    have h3 := hf.lt (itr f n k) (by omega)
    have h4 := hf.nn (itr f n k) h1.1
    exact ⟨h4, by rw [itr]; omega⟩
set_option maxHeartbeats 1000000 in
theorem endOf_yes (n : Int) (f : Int → Int) (g : Nat) (w : World) (h : nuB n = true) (hl : Lessens f) (eg : ∀ args w, (callFunc g args).run Tryd.prog w = .ok (.enter g args) w)
    (hf : ∀ (x : Int) (W : World), 0 ≤ x → x ≤ 1000000000000 → Below w.heap.size w W → Calls Tryd.prog g #[.int .i64 x] W fun e w' => e = .returned (.int .i64 (f x)) ∧ Below W.heap.size W w') :
    Calls Tryd.prog 33 #[.int .i64 n, .func (.func g) #[] #[]] w fun e w' => (∃ e2 t : Int, e = .returned (.tuple #[.int .i64 e2, .int .i64 t, .bool true]) ∧ EndIs f n e2 t) ∧ Below w.heap.size w w' := by
  have HL := Lib.hid hl
  have HF := Lib.hid hf
  obtain ⟨h0, h1⟩ := (nuB_iff n).1 h
  clear hf hl
  go_enter Tryd.func33, Tryd.ntmps33
  go_wp2_with (go_at_call 42; refine (isWritable_any _ _).mono ?_; rintro e w' ⟨rfl, rfl⟩)
  go_loopw [0, 7] (fun nv tv wr => ∃ (k : Nat) (x : Int), nv = .int .i64 x ∧ tv = .int .i64 k ∧ 0 ≤ x ∧ x + (k : Int) ≤ 1000000000000 ∧ Hid (x = itr f n k ∧ ∀ j, j < k → 9 < itr f n j) ∧ Below w.heap.size w wr) (fun nv _ _ => (intOf nv).toNat)
  case atStart => exact ⟨0, n, rfl, rfl, h0, by simpa using h1, ⟨rfl, fun j hj => by omega⟩, Below.refl _ _⟩
  case round =>
    obtain ⟨k, x, rfl, rfl, hx0, hx1, HK, hb⟩ := hrel
    by_cases hlt : 9 < x
    · have hc := HF.out x wr hx0 (by omega) hb
      have HC := Lib.hid hc
      have hy0 := HL.out.nn x hx0
      have hy1 := HL.out.lt x (by omega)
      have HK' : Hid (f x = itr f n (k + 1) ∧ ∀ j, j < k + 1 → 9 < itr f n j) := ⟨by rw [itr, ← HK.out.1], fun j hj => by
        by_cases e : j = k
        · subst e; rw [← HK.out.1]; exact hlt
        · exact HK.out.2 j (by omega)⟩
      obtain ⟨y, hy⟩ : ∃ y, f x = y := ⟨_, rfl⟩
      rw [hy] at HC HK' hy0 hy1
      clear hc hy
      go_wp2_with (go_at_fn g; refine HC.out.mono ?_; rintro e w1 ⟨rfl, b1⟩)
      go_roundw
      case rel => exact ⟨k + 1, y, rfl, by go_num, hy0, by omega, HK', hb.trans (b1.mono hb.size)⟩
      case measure => simp [intOf]; omega
    · have HE : Hid (EndIs f n x (k : Int)) := ⟨k, rfl, HK.out.1, by omega, HK.out.2⟩
      go_wp2
      go_ret3
      exact ⟨⟨x, (k : Int), rfl, HE.out⟩, hb⟩
theorem endOf_no (n : Int) (v : Value) (w : World) (h : nuB n = false) :
    Calls Tryd.prog 33 #[.int .i64 n, v] w fun e w' => e = .returned (.tuple #[.int .i64 0, .int .i64 0, .bool false]) ∧ Below w.heap.size w w' := by
  go_enter Tryd.func33, Tryd.ntmps33
  go_wp2_with (go_at_call 42; refine (isWritable_any _ _).mono ?_; rintro e w' ⟨rfl, rfl⟩)
  go_ret3
  exact ⟨rfl, Below.refl _ _⟩
/-- What DigitSum answers. -/
def DigitSumA (n : Int) : Int := if nuB n = true then nsum n else 0
/-- What DigitProduct answers. -/
def DigitProductA (n : Int) : Int := if nuB n = true then nprod n else 0
theorem iProductEnd_no (n : Int) (w : World) (h : nuB n = false) :
    Calls Tryd.prog 17 #[.int .i64 n] w fun e w' => e = .returned (.tuple #[.int .i64 0, .int .i64 0, .bool false]) ∧ Below w.heap.size w w' := by
  go_enter Tryd.func17, Tryd.ntmps17
  go_wp2_with (go_at_call 33; refine (endOf_no n _ w h).mono ?_; rintro e w1 ⟨rfl, b1⟩)
  go_ret3
  exact ⟨rfl, b1⟩
theorem iProductEnd_yes (n : Int) (w : World) (htab : Tab w) (h : nuB n = true) :
    Calls Tryd.prog 17 #[.int .i64 n] w fun e w' => (∃ e2 t : Int, e = .returned (.tuple #[.int .i64 e2, .int .i64 t, .bool true]) ∧ EndIs nprod n e2 t) ∧ Below w.heap.size w w' := by
  have HF := Lib.hid (endOf_yes n nprod 34 w h nprod_lessens (enters_of Tryd.func34 (by kernel_rfl) rfl) (fun x W a b hW => digitProduct_any x W a b (htab.keep hW)))
  clear htab
  go_enter Tryd.func17, Tryd.ntmps17
  go_wp2_with (go_at_call 33; refine HF.out.mono ?_; rintro e w1 ⟨⟨e2, t, rfl, he⟩, b1⟩; have HE := Lib.hid he; clear he)
  go_ret3
  exact ⟨⟨e2, t, rfl, HE.out⟩, b1⟩
/-- The digit at a place. -/
def DgtIs (k x : Int) : Prop := ∃ n a : Int, PlaceIs k n a ∧ ∃ s, TxtOf n s ∧ x = dj s (a - 1).toNat
theorem DgtIs.uniq {k x y : Int} (u : DgtIs k x) (v : DgtIs k y) : x = y := by
  obtain ⟨n, a, h1, s, h2, rfl⟩ := u
  obtain ⟨m, b, h3, t, h4, rfl⟩ := v
  obtain ⟨rfl, rfl⟩ := h1.uniq h3
  have : s = t := ByteArray.ext (Array.ext' (h2.trans h4.symm))
  rw [this]
end Go.Proofs.YtghjpanabphbpabDoor
