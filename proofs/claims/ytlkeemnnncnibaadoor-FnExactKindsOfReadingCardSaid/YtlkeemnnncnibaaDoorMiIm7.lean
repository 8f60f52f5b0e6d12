/-
  Readings: how many of a kind come before one; the reading of a rank.
-/
import Derived.Test.YtlkeemnnncnibaaDoorMiIm6
import Derived.Test.YtlkeemnnncnibaaDoorMiIm1
namespace Go.Proofs.YtlkeemnnncnibaaDoor
open Go.RowKit

theorem enc_dig (d : Nat) (h : d ≤ 9) : Utf8.encode (48 + (d : Int)) = ⟨[dc d].toArray⟩ := by
  have : d = 0 ∨ d = 1 ∨ d = 2 ∨ d = 3 ∨ d = 4 ∨ d = 5 ∨ d = 6 ∨ d = 7 ∨ d = 8 ∨ d = 9 := by omega
  rcases this with h | h | h | h | h | h | h | h | h | h <;> subst h <;> rfl
theorem ext_take (t : List UInt8) (k : Nat) : (⟨t.toArray⟩ : ByteArray).extract 0 k = ⟨(t.take k).toArray⟩ := by
  apply ByteArray.ext
  simp [ByteArray.data_extract]
theorem rb_bd (I : List UInt8 → Bool) (t : List UInt8) (hd : digB t = true) (h9 : t.length ≤ 9) : rb I t [] ≤ 1000000000 := by
  have := rb_le I t [] hd
  have h2 := cK_bd I t.length [] h9
  omega
theorem rb_step (I : List UInt8 → Bool) (t : List UInt8) (k u : Nat) (hk : k < t.length) (hu : u ≤ 9) (he : t[k] = dc u) : rb I (t.drop k) (t.take k) = sm (fun d => cK I (t.length - (k + 1)) (t.take k ++ [dc d])) u + rb I (t.drop (k + 1)) (t.take (k + 1)) := by
  rw [List.drop_eq_getElem_cons hk, rb, List.take_succ_eq_append_getElem hk, he, dc_nat hu, List.length_drop, show 48 + u - 48 = u by omega]
theorem cK_zero (I : List UInt8 → Bool) (t : List UInt8) : cK I 0 t = if I t then 1 else 0 := by unfold cK; rw [LK]; split <;> rfl
set_option maxHeartbeats 1000000 in
theorem isOfKind_any (g : Nat) (pre cb : Array Value) (I : List UInt8 → Bool) (t : List UInt8) (w : World) (eg : Ent g) (hg : Cnts g pre cb t.length I w) (hd : digB t = true) :
    Calls Tryd.prog 19 #[.func (.func g) pre cb, .string ⟨t.toArray⟩] w fun e w' => e = .returned (.bool (I t)) ∧ Below w.heap.size w w' := by
  have h1 := hg t w hd (Nat.le_refl _) (Below.refl _ _)
  rw [Nat.sub_self, cK_zero] at h1
  obtain ⟨s, hs⟩ : ∃ s : ByteArray, s = ⟨t.toArray⟩ := ⟨_, rfl⟩
  have hsz : ((t.length : Nat) : Int) = (s.size : Int) := by rw [hs, sz_of]
  rw [← hs, hsz] at h1
  rw [← hs]
  have e1 : ∀ args w, (callFunc g args).run Tryd.prog w = .ok (.enter g args) w := eg
  cases hI : I t with
  | true =>
    rw [hI] at h1
    have H1 := Lib.hid h1
    clear h1 hI hsz hs hd hg eg
    go_enter Tryd.func19, Tryd.ntmps19
    go_wp2_with (go_at_fn g; refine H1.out.mono ?_; rintro e w1 ⟨rfl, b1⟩)
    go_ret
    exact ⟨rfl, b1⟩
  | false =>
    rw [hI] at h1
    have H1 := Lib.hid h1
    clear h1 hI hsz hs hd hg eg
    go_enter Tryd.func19, Tryd.ntmps19
    go_wp2_with (go_at_fn g; refine H1.out.mono ?_; rintro e w1 ⟨rfl, b1⟩)
    go_ret
    exact ⟨rfl, b1⟩
end Go.Proofs.YtlkeemnnncnibaaDoor
