/-
  Least numbers: the laws of ProductOfDigits and ProductSteps.
-/
import Derived.Test.YtghjpanabphbpabDoorLeList
import Derived.Test.YtghjpanabphbpabDoorDiLaw3
namespace Go.Proofs.YtghjpanabphbpabDoor
open Go.RowKit
set_option maxRecDepth 100000

/-- What both answer. -/
def PsIs (n t : Int) (ok : Bool) : Prop := (nuB n = true ∧ ok = true ∧ ∃ e, EndIs nprod n e t) ∨ (nuB n = false ∧ ok = false ∧ t = 0)
theorem PsIs.uniq {n t s : Int} {a b : Bool} (u : PsIs n t a) (v : PsIs n s b) : t = s ∧ a = b := by
  rcases u with ⟨u1, rfl, e, u2⟩ | ⟨u1, rfl, rfl⟩ <;> rcases v with ⟨v1, rfl, f, v2⟩ | ⟨v1, rfl, rfl⟩
  · exact ⟨(u2.uniq v2).2, rfl⟩
  · rw [u1] at v1; cases v1
  · rw [u1] at v1; cases v1
  · exact ⟨rfl, rfl⟩
theorem iPs_any (n : Int) (w : World) (htab : Tab w) :
    Calls Tryd.prog 8 #[.int .i64 n] w fun e w' => (∃ (t : Int) (ok : Bool), e = .returned (.tuple #[.int .i64 t, .bool ok]) ∧ PsIs n t ok) ∧ Below w.heap.size w w' := by
  cases hb : nuB n with
  | false =>
    have HD := Lib.hid (iProductEnd_no n w hb)
    have HR : Hid (PsIs n 0 false) := .inr ⟨hb, rfl, rfl⟩
    clear hb htab
    go_enter Tryd.func8, Tryd.ntmps8
    go_wp2_with (go_at_call 17; refine HD.out.mono ?_; rintro e w1 ⟨rfl, b1⟩)
    go_ret2
    exact ⟨⟨0, false, rfl, HR.out⟩, b1⟩
  | true =>
    have HD := Lib.hid (iProductEnd_yes n w htab hb)
    have HG : Hid (∀ e t, EndIs nprod n e t → PsIs n t true) := fun e t h => .inl ⟨hb, rfl, e, h⟩
    clear hb htab
    go_enter Tryd.func8, Tryd.ntmps8
    go_wp2_with (go_at_call 17; refine HD.out.mono ?_; rintro e w1 ⟨⟨e2, t, rfl, he⟩, b1⟩; have HR := Lib.hid (HG.out _ _ he); clear he)
    go_ret2
    exact ⟨⟨t, true, rfl, HR.out⟩, b1⟩
set_option maxHeartbeats 1000000 in
theorem sPs_any (n : Int) (w : World) :
    Calls Tryd.prog 7 #[.int .i64 n] w fun e w' => (∃ (t : Int) (ok : Bool), e = .returned (.tuple #[.int .i64 t, .bool ok]) ∧ PsIs n t ok) ∧ Below w.heap.size w w' := by
  have HZ := Lib.hid (fun W => leNumber_any n W)
  cases hb : nuB n with
  | false =>
    have HR : Hid (PsIs n 0 false) := .inr ⟨hb, rfl, rfl⟩
    rw [hb] at HZ
    clear hb
    go_enter Tryd.func7, Tryd.ntmps7
    go_wp2_with (go_at_call 15; (with_reducible refine (HZ.out _).mono ?_); rintro e w' ⟨rfl, rfl⟩)
    go_ret2
    exact ⟨⟨0, false, rfl, HR.out⟩, Below.refl _ _⟩
  | true =>
    obtain ⟨h0, h1⟩ := (nuB_iff n).1 hb
    have HG : Hid (∀ e t, EndIs nprod n e t → PsIs n t true) := fun e t h => .inl ⟨hb, rfl, e, h⟩
    rw [hb] at HZ
    clear hb
    go_enter Tryd.func7, Tryd.ntmps7
    go_wp2_with (go_at_call 15; (with_reducible refine (HZ.out _).mono ?_); rintro e w' ⟨rfl, rfl⟩)
    go_loopw [0, 4] (fun nv tv wr => ∃ (k x : Nat), nv = .int .i64 x ∧ tv = .int .i64 k ∧ (x : Int) + (k : Int) ≤ 1000000000000 ∧ Hid ((x : Int) = itr nprod n k ∧ ∀ j, j < k → 9 < itr nprod n j) ∧ Below w.heap.size w wr) (fun nv _ _ => (intOf nv).toNat)
    case atStart => exact ⟨0, n.toNat, val_int (by omega), rfl, by omega, ⟨by rw [itr]; omega, fun j hj => by omega⟩, Below.refl _ _⟩
    case round =>
      obtain ⟨k, x, rfl, rfl, hx1, HK, hb⟩ := hrel
      by_cases hlt : 9 < x
      · have hlt' : (9 : Int) < (x : Int) := by omega
        have hc := leProduct_any x wr (by omega)
        have hy0 := nprod_lessens.nn (x : Int) (by omega)
        have hy1 := nprod_lessens.lt (x : Int) (by omega)
        have HK' : Hid (nprod (x : Int) = itr nprod n (k + 1) ∧ ∀ j, j < k + 1 → 9 < itr nprod n j) := ⟨by rw [itr, ← HK.out.1], fun j hj => by
          by_cases e : j = k
          · subst e; rw [← HK.out.1]; exact hlt'
          · exact HK.out.2 j (by omega)⟩
        obtain ⟨y, hy⟩ : ∃ y : Nat, nprod (x : Int) = (y : Int) := ⟨(nprod (x : Int)).toNat, by omega⟩
        rw [hy] at hc HK' hy1
        have HC := Lib.hid hc
        clear hc hy hy0 hlt
        go_wp2_with (go_at_call 16; refine HC.out.mono ?_; rintro e w1 ⟨rfl, b1⟩)
        go_roundw
        case rel => exact ⟨k + 1, y, rfl, by go_num, by omega, HK', hb.trans (b1.mono hb.size)⟩
        case measure => simp [intOf]; omega
      · have HE : Hid (EndIs nprod n (x : Int) (k : Int)) := ⟨k, rfl, HK.out.1, by omega, HK.out.2⟩
        have HR := Lib.hid (HG.out _ _ HE.out)
        go_wp2
        go_ret2
        first | exact ⟨⟨(k : Int), true, rfl, HR.out⟩, hb⟩ | exact ⟨HR.out, hb⟩
theorem FnExactProductSteps_law (n : Int) (_h0 : (Lit.int .i64 n).wf = true) (w : World) (htab : Tab w) :
    Calls Tryd.prog 3 #[.int .i64 n] w fun e w' => e = .returned (.bool true) ∧ Below w.heap.size w w' := by
  have HT := Lib.hid (fun W hW => iPs_any n W (htab.keep hW))
  clear htab
  go_enter Tryd.func3, Tryd.ntmps3
  go_wp2_with (first | (go_at_call 7; go_must ((with_reducible refine (sPs_any _ _).mono ?_); rintro e w1 ⟨⟨l, a, rfl, hr⟩, b1⟩; have HR := Lib.hid hr; clear hr)) | (go_at_call 8; go_must ((refine (HT.out _ b1).mono ?_); rintro e w2 ⟨⟨q, o, rfl, hq⟩, b2⟩; have e0 := (HR.out.uniq hq).1; have e1 := (HR.out.uniq hq).2; subst e0; subst e1; clear hq)))
  go_ret
  exact ⟨rfl, chain b1 b2⟩
end Go.Proofs.YtghjpanabphbpabDoor
