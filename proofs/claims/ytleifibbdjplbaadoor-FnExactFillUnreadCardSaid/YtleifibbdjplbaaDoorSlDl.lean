/-
  The digits that are left in a channel.
-/
import Derived.Test.YtleifibbdjplbaaDoorSlNx
import Derived.Test.YtleifibbdjplbaaDoorApp
namespace Go.Proofs.YtleifibbdjplbaaDoor
open Go.RowKit Go.Conc

def slN : Value → Nat
  | .slice _ n _ => n
  | _ => 0
theorem Ints.slN {B : Nat} {xs : List Int} {v : Value} {w : World} (h : Ints B xs v w) : slN v = xs.length := by
  rcases h.2 with ⟨rfl, h0⟩ | ⟨g, c, cur, rfl, _⟩
  · exact h0.symm
  · rfl
theorem ints_chan {B C : Nat} {xs : List Int} {v : Value} {w : World} (h : Ints B xs v w) (hc : C < B) (cap : Nat) (buf : Array Value) (s r : Nat) : Ints B xs v (w.setChan C cap buf false s r false) :=
  World.ownsRow.kept h (row := some C) ⟨rfl, rfl, rfl, by rw [size_setChan]; exact Nat.le_refl _, fun i _ hi => by simp only [World.setChan]; rw [Array.getElem?_setIfInBounds_ne (fun e => hi (by rw [e]))]⟩ (.inr fun e => by
    have := (World.ownsRow.lt h C e).1
    omega)
set_option maxHeartbeats 1000000 in
theorem left_any (c : Nat) (xs : List Int) (w : World) (hx : xs.length ≤ 10) (h : ChanIs w c xs) :
    Calls Tryd.prog 56 #[.chan (some c)] w fun e w' => (∃ u, e = .returned u ∧ Ints w.heap.size xs u w') ∧ Below c w w' ∧ w.heap.size ≤ w'.heap.size := by
  have hcw := h.lt
  have HC := Lib.hid h
  clear h
  go_enter Tryd.func56, Tryd.ntmps56
  go_wp2
  go_loopw [3] (fun vv wr => ∃ ys zs : List Int, Hid (xs = ys ++ zs) ∧ Hid (ChanIs wr c zs) ∧ Hid (Ints w.heap.size ys vv wr) ∧ Below c w wr) (fun vv _ => 11 - slN vv)
  case atStart => exact ⟨[], xs, rfl, HC.out, World.ownsRow_nil _ _ _ _, Below.refl _ _⟩
  case round =>
    obtain ⟨ys, zs, HX, HZ, HI, hb⟩ := hrel
    obtain ⟨wo, rfl⟩ : ∃ wo : World, wo = wr := ⟨_, rfl⟩
    have hsl := HI.out.slN
    have hyl : ys.length + zs.length ≤ 10 := by have := HX.out; rw [this, List.length_append] at hx; exact hx
    have hoz := hb.size
    obtain ⟨sn, rn, hcc⟩ := HZ.out
    have HCC := Lib.hid hcc
    clear hcc
    cases zs with
    | nil =>
      go_wp2_with (go_at_call 40; (with_reducible refine (next_nil c sn rn wo HCC.out).mono ?_); rintro e w1 ⟨rfl, rfl⟩)
      go_ret
      exact ⟨⟨_, rfl, by rw [HX.out, List.append_nil]; exact HI.out⟩, hb, hoz⟩
    | cons z zs =>
      have hz1 : ys.length + 1 ≤ 10 := by simp only [List.length_cons] at hyl; omega
      go_wp2_with (first
        | (go_at_call 40; (with_reducible refine (next_cons c z zs sn rn wo HCC.out).mono ?_); rintro e w1 ⟨rfl, hw1⟩; have HI1 : Hid (Ints w.heap.size ys _ w1) := (by show Ints _ _ _ _; rw [hw1]; exact ints_chan HI.out hcw _ _ _ _); have HC1 : Hid (ChanIs w1 c zs) := (by show ChanIs _ _ _; rw [hw1]; exact ChanIs.set _ _ _ _ _ (by omega)); have hb1 : Below c w w1 := (by rw [hw1]; exact below_setChan hb (Nat.le_refl _) _ _ _ _ _ _); have hs1 := hb1.size; clear hw1)
        | (at_builtin; refine wpList_append_int _ rfl _ _ rfl w.heap.size ys _ rfl (HI1.out.alloc _) w1.heap.size z rfl (by simp) (by omega) (by rw [World.size_alloc]; omega) ?_; intro v' w5 hI5 hg5 _))
      go_roundw
      case rel =>
        have hbb : Below w.heap.size w1 w5 := ((Below.refl _ _).alloc hs1 _).trans hg5
        exact ⟨ys ++ [z], zs, by show _ = _; rw [HX.out, List.append_assoc]; rfl, HC1.out.below hbb hcw, hI5, hb1.trans (hbb.mono (by omega))⟩
      case measure => rw [hI5.slN, hsl, List.length_append]; simp; omega
end Go.Proofs.YtleifibbdjplbaaDoor
