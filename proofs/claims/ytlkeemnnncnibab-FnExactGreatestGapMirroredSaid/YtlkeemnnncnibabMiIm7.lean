/-
  Readings: how many of a kind come before one; the reading of a rank.
-/
import Derived.Test.YtlkeemnnncnibabMiIm6
import Derived.Test.YtlkeemnnncnibabMiIm1
namespace Go.Proofs.Ytlkeemnnncnibab
open Go.RowKit

theorem enc_dig (d : Nat) (h : d ≤ 9) : Utf8.encode (48 + (d : Int)) = ⟨[dc d].toArray⟩ := by
  have : d = 0 ∨ d = 1 ∨ d = 2 ∨ d = 3 ∨ d = 4 ∨ d = 5 ∨ d = 6 ∨ d = 7 ∨ d = 8 ∨ d = 9 := by omega
  rcases this with h | h | h | h | h | h | h | h | h | h <;> subst h <;> rfl
theorem ext_take (t : List UInt8) (k : Nat) : (⟨t.toArray⟩ : ByteArray).extract 0 k = ⟨(t.take k).toArray⟩ := by
  apply ByteArray.ext
  simp [ByteArray.data_extract]
theorem rb_bd (I : List UInt8 → Bool) (t : List UInt8) (hd : digB t = true) (h9 : t.length ≤ 9) : rb I t [] ≤ 1000000000 := by
  have := rb_le I t [] hd
  have h2 := cK_bd I t.length [] h9
  omega
theorem rb_step (I : List UInt8 → Bool) (t : List UInt8) (k u : Nat) (hk : k < t.length) (hu : u ≤ 9) (he : t[k] = dc u) : rb I (t.drop k) (t.take k) = sm (fun d => cK I (t.length - (k + 1)) (t.take k ++ [dc d])) u + rb I (t.drop (k + 1)) (t.take (k + 1)) := by
  rw [List.drop_eq_getElem_cons hk, rb, List.take_succ_eq_append_getElem hk, he, dc_nat hu, List.length_drop, show 48 + u - 48 = u by omega]
theorem cK_zero (I : List UInt8 → Bool) (t : List UInt8) : cK I 0 t = if I t then 1 else 0 := by unfold cK; rw [LK]; split <;> rfl
set_option maxHeartbeats 1000000 in
theorem isOfKind_any (g : Nat) (pre cb : Array Value) (I : List UInt8 → Bool) (t : List UInt8) (w : World) (eg : Ent g) (hg : Cnts g pre cb t.length I w) (hd : digB t = true) :
    Calls Try.prog 79 #[.func (.func g) pre cb, .string ⟨t.toArray⟩] w fun e w' => e = .returned (.bool (I t)) ∧ Below w.heap.size w w' := by
  have h1 := hg t w hd (Nat.le_refl _) (Below.refl _ _)
  rw [Nat.sub_self, cK_zero] at h1
  obtain ⟨s, hs⟩ : ∃ s : ByteArray, s = ⟨t.toArray⟩ := ⟨_, rfl⟩
  have hsz : ((t.length : Nat) : Int) = (s.size : Int) := by rw [hs, sz_of]
  rw [← hs, hsz] at h1
  rw [← hs]
  have e1 : ∀ args w, (callFunc g args).run Try.prog w = .ok (.enter g args) w := eg
  cases hI : I t with
  | true =>
    rw [hI] at h1
    have H1 := Lib.hid h1
    clear h1 hI hsz hs hd hg eg
    go_enter Try.func79, Try.ntmps79
    go_wp2_with (go_at_fn g; refine H1.out.mono ?_; rintro e w1 ⟨rfl, b1⟩)
    go_ret
    exact ⟨rfl, b1⟩
  | false =>
    rw [hI] at h1
    have H1 := Lib.hid h1
    clear h1 hI hsz hs hd hg eg
    go_enter Try.func79, Try.ntmps79
    go_wp2_with (go_at_fn g; refine H1.out.mono ?_; rintro e w1 ⟨rfl, b1⟩)
    go_ret
    exact ⟨rfl, b1⟩
set_option maxHeartbeats 2000000 in
theorem rankBefore_any (g : Nat) (pre cb : Array Value) (I : List UInt8 → Bool) (t : List UInt8) (w : World) (eg : Ent g) (hg : Cnts g pre cb t.length I w) (hd : digB t = true) (h9 : t.length ≤ 9) :
    Calls Try.prog 78 #[.func (.func g) pre cb, .string ⟨t.toArray⟩] w fun e w' => e = .returned (.int .i64 ((rb I t [] : Nat) : Int)) ∧ Below w.heap.size w w' := by
  have hbd := rb_bd I t hd h9
  have HG := Lib.hid hg
  have HD := Lib.hid hd
  obtain ⟨s, hs⟩ : ∃ s : ByteArray, s = ⟨t.toArray⟩ := ⟨_, rfl⟩
  have hsz : s.size = t.length := by rw [hs, sz_of]
  have HS := Lib.hid hs
  have HSZ := Lib.hid hsz
  have hs9 : s.size ≤ 9 := by omega
  rw [← hs]
  have e1 : ∀ args w, (callFunc g args).run Try.prog w = .ok (.enter g args) w := eg
  obtain ⟨T, hT⟩ : ∃ T, T = rb I t [] := ⟨_, rfl⟩
  rw [← hT] at hbd ⊢
  have HT := Lib.hid hT
  clear hg hd hsz hs eg h9 hT
  go_enter Try.func78, Try.ntmps78
  go_wp2
  go_loopw [5, 10] (fun r i wr => ∃ (k R : Nat), k ≤ s.size ∧ i = .int .i64 k ∧ r = .int .i64 R ∧ R ≤ T ∧ Hid (R + rb I (t.drop k) (t.take k) = T) ∧ Below w.heap.size w wr) (fun _ i _ => s.size - (intOf i).toNat)
  case atStart => exact ⟨0, 0, Nat.zero_le _, rfl, rfl, Nat.zero_le _, (by show _ = _; rw [HT.out]; simp), Below.refl _ _⟩
  case round =>
    obtain ⟨k, R, hk, rfl, rfl, hRT, HR, hbl⟩ := hrel
    by_cases hlt : k < s.size
    · have hkt : k < t.length := by have := HSZ.out; omega
      have hgt : s[k] = t[k] := by have := HS.out; subst this; rfl
      obtain ⟨u, hu, hue⟩ := dc_of (show dgB t[k] = true by have := HD.out; unfold digB at this; exact List.all_eq_true.1 this _ (List.getElem_mem hkt))
      have hsk : (s[k].toNat : Int) = 48 + (u : Int) := by rw [hgt, hue, dc_nat hu]; omega
      have hstep := rb_step I t k u hkt hu hue
      obtain ⟨f, hf⟩ : ∃ f : Nat → Nat, f = (fun d => cK I (t.length - (k + 1)) (t.take k ++ [dc d])) := ⟨_, rfl⟩
      rw [← hf] at hstep
      have HST : Hid (R + sm f u + rb I (t.drop (k + 1)) (t.take (k + 1)) = T) := by show _ = _; have := HR.out; rw [hstep] at this; omega
      have HRu : Hid (R + sm f u ≤ T) := by show _ ≤ _; have := HST.out; omega
      have hcall : ∀ (d : Nat) (W : World), d ≤ 9 → Below w.heap.size w W → Calls Try.prog g (pre ++ (#[.string (s.extract 0 k ++ ⟨[dc d].toArray⟩), .int .i64 (s.size : Int)] ++ cb)) W fun e w' => e = .returned (.int .i64 ((f d : Nat) : Int)) ∧ Below W.heap.size W w' := by
        intro d W hd9 hW
        have h1 := HG.out (t.take k ++ [dc d]) W (digB_dc (digB_take _ _ HD.out) (by omega)) (by simp; omega) hW
        have e3 : t.length - (t.take k ++ [dc d]).length = t.length - (k + 1) := by simp; omega
        have e2 : s.extract 0 k ++ ⟨[dc d].toArray⟩ = ⟨(t.take k ++ [dc d]).toArray⟩ := by rw [HS.out, ext_take, str_two]
        rw [e3] at h1
        rw [e2, hf, HSZ.out]
        exact h1
      have HC := Lib.hid hcall
      clear hcall hstep hf hgt hue hkt HR
      obtain ⟨wo, rfl⟩ : ∃ wo : World, wo = wr := ⟨_, rfl⟩
      go_wp2
      go_loopw [5, 7] (fun r d wr => ∃ (d' R' : Nat), d' ≤ u ∧ d = .int .u8 (48 + (d' : Int)) ∧ r = .int .i64 R' ∧ R' ≤ T ∧ Hid (R' = R + sm f d') ∧ Below w.heap.size w wr) (fun _ d _ => (48 + u) - (intOf d).toNat)
      case atStart => exact ⟨0, R, Nat.zero_le _, by simp, rfl, hRT, by (show _ = _; simp [sm]), hbl⟩
      case round =>
        obtain ⟨d, R', hdu, rfl, rfl, hRT', HR', hbl'⟩ := hrel
        by_cases hltd : d < u
        · have hc := HC.out d _ (by omega) hbl'
          have HN : Hid (R' + f d = R + sm f (d + 1)) := by show _ = _; rw [HR'.out]; simp only [sm]; omega
          have hNT : R' + f d ≤ T := by
            rw [HN.out]; have h1 := HRu.out; have h2 := sm_mono f (show d + 1 ≤ u by omega); omega
          have HE := enc_dig d (by omega)
          have HC1 := Lib.hid hc
          obtain ⟨x, hx⟩ : ∃ x, x = f d := ⟨_, rfl⟩
          rw [← hx] at HC1 HN hNT
          clear hc hx
          go_wp2_with (go_at_fn g; refine HC1.out.mono ?_; rintro e w1 ⟨rfl, b1⟩)
          go_roundw
          case rel => exact ⟨d + 1, R' + x, by omega, val_int (by omega), by go_num, hNT, HN, chain hbl' b1⟩
          case measure => simp [intOf]; omega
        · obtain rfl : d = u := by omega
          have HK : Hid (R' + rb I (t.drop (k + 1)) (t.take (k + 1)) = T) := by show _ = _; rw [HR'.out]; exact HST.out
          go_wp2
          go_roundw
          case rel => exact ⟨k + 1, R', by omega, by go_num, rfl, hRT', HK, hbl'⟩
          case measure => simp [intOf]; omega
    · have HX : Hid ((R : Int) = (T : Int)) := by
        show _ = _
        have := HR.out
        rw [show k = t.length by have := HSZ.out; omega, List.drop_length] at this
        simp only [rb] at this; omega
      go_wp2
      go_ret
      exact ⟨ret_int HX.out, hbl⟩
end Go.Proofs.Ytlkeemnnncnibab
