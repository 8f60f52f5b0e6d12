/-
  Least numbers: the law of OnesFor.
-/
import Derived.Test.YtghjpanabphbpabLeMl
namespace Go.Proofs.Ytghjpanabphbpab
open Go.RowKit
set_option maxRecDepth 100000

/-- What both answer. -/
def OfIs (n k : Int) (ok : Bool) : Prop := ∃ t, MlIs n ⟨#[49]⟩ t ok ∧ k = (t.length : Nat)
theorem OfIs.uniq {n k l : Int} {a b : Bool} (h : OfIs n k a) (g : OfIs n l b) : k = l ∧ a = b := by
  obtain ⟨t, h1, rfl⟩ := h
  obtain ⟨u, g1, rfl⟩ := g
  obtain ⟨e1, e2⟩ := h1.uniq g1
  exact ⟨by rw [e1], e2⟩
theorem tb_one : (⟨#[49]⟩ : ByteArray) = ⟨(tb [1]).toArray⟩ := rfl
theorem rt_one : rtB ⟨#[49]⟩ = true := by decide +kernel
theorem iOf_any (n : Int) (w : World) :
    Calls Try.prog 12 #[.int .i64 n] w fun e w' => (∃ (k : Int) (ok : Bool), e = .returned (.tuple #[.int .i64 k, .bool ok]) ∧ OfIs n k ok) ∧ Below w.heap.size w w' := by
  have HL := Lib.hid (fun W => iM_any n ⟨#[49]⟩ W (by show 1 ≤ _; unfold maxLen; omega))
  go_enter Try.func12, Try.ntmps12
  go_wp2_with (go_at_call 8; (refine (HL.out _).mono ?_); rintro e w2 ⟨⟨t, ok, rfl, hr⟩, b2⟩; have HR : Hid (OfIs n (((⟨(tb t).toArray⟩ : ByteArray).size : Nat) : Int) ok) := ⟨t, hr, by rw [tb_sz]⟩; clear hr)
  go_ret2
  exact ⟨⟨_, ok, rfl, HR.out⟩, b2⟩
theorem sOf_any (n : Int) (w : World) :
    Calls Try.prog 11 #[.int .i64 n] w fun e w' => (∃ (k : Int) (ok : Bool), e = .returned (.tuple #[.int .i64 k, .bool ok]) ∧ OfIs n k ok) ∧ Below w.heap.size w w' := by
  cases h1 : dvB n with
  | false =>
    have z1 := fun W => leDivisor_any n W
    rw [h1] at z1
    have HZ1 := Lib.hid z1
    have HR : Hid (OfIs n 0 false) := ⟨[], .inr ⟨.inl h1, rfl, rfl⟩, rfl⟩
    clear h1 z1
    go_enter Try.func11, Try.ntmps11
    go_wp2_with (go_at_call 15; (with_reducible refine (HZ1.out _).mono ?_); rintro e w' ⟨rfl, rfl⟩)
    go_ret2
    exact ⟨⟨0, false, rfl, HR.out⟩, Below.refl _ _⟩
  | true =>
    obtain ⟨n0, n1⟩ := (dvB_iff n).1 h1
    obtain ⟨m, rfl⟩ : ∃ m : Nat, n = (m : Int) := ⟨n.toNat, by omega⟩
    have z1 := fun W => leDivisor_any (m : Int) W
    rw [h1] at z1
    have HZ1 := Lib.hid z1
    have h9 : ∀ d ∈ [1], d ≤ 9 := fun d hd => by have : d = 1 := by simpa using hd
                                                 omega
    have HL := Lib.hid (fun W => sLm_any m [1] ⟨#[49]⟩ W (by omega) (by omega) tb_one h9 (by show 1 ≤ 10; omega))
    have HG : Hid (∀ t ok, Res m [1] t ok → OfIs m (((⟨(tb t).toArray⟩ : ByteArray).size : Nat) : Int) ok) := fun t ok h => ⟨t, .inl ⟨h1, rt_one, [1], tb_one, h9, by rw [Int.toNat_natCast]; exact h⟩, by rw [tb_sz]⟩
    clear h1 z1 n0 n1 h9
    go_enter Try.func11, Try.ntmps11
    go_wp2_with (first | (go_at_call 15; (with_reducible refine (HZ1.out _).mono ?_); rintro e w' ⟨rfl, rfl⟩) | (go_at_call 17; (refine (HL.out _).mono ?_); rintro e w2 ⟨⟨t, ok, rfl, hr⟩, b2⟩; have HR := Lib.hid (HG.out _ _ hr); clear hr))
    go_ret2
    exact ⟨⟨_, ok, rfl, HR.out⟩, b2⟩
theorem FnExactOnesFor_law (n : Int) (_hn : (Lit.int .i64 n).wf = true) (w : World) :
    Calls Try.prog 5 #[.int .i64 n] w fun e w' => e = .returned (.bool true) ∧ Below w.heap.size w w' := by
  go_enter Try.func5, Try.ntmps5
  go_wp2_with (first | (go_at_call 11; go_must ((with_reducible refine (sOf_any _ _).mono ?_); rintro e w1 ⟨⟨l, a, rfl, hr⟩, b1⟩; have HR := Lib.hid hr; clear hr)) | (go_at_call 12; go_must ((with_reducible refine (iOf_any _ _).mono ?_); rintro e w2 ⟨⟨q, o, rfl, hq⟩, b2⟩; have e0 := (HR.out.uniq hq).1; have e1 := (HR.out.uniq hq).2; subst e0; subst e1; clear hq)))
  go_ret
  exact ⟨rfl, chain b1 b2⟩
end Go.Proofs.Ytghjpanabphbpab
