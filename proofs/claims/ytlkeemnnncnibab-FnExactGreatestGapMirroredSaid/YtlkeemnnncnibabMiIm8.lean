/-
  Readings: the reading of a rank, and the next one, as the program finds them.
-/
import Derived.Test.YtlkeemnnncnibabMiIm7
namespace Go.Proofs.Ytlkeemnnncnibab
open Go.RowKit

set_option maxHeartbeats 1000000 in
theorem rdRank_no (g : Nat) (pre cb : Array Value) (I : List UInt8 → Bool) (n : Nat) (x : Int) (w : World) (eg : Ent g) (hg : Cnts g pre cb n I w) (_h9 : n ≤ 9) (hx : x < 0 ∨ ((cK I n [] : Nat) : Int) ≤ x) :
    Calls Try.prog 41 #[.func (.func g) pre cb, .int .i64 n, .int .i64 x] w fun e w' => e = .returned (.tuple #[.string ⟨#[]⟩, .bool false]) ∧ Below w.heap.size w w' := by
  have h1 := fun W hW => hg [] W rfl (Nat.zero_le _) hW
  rw [List.length_nil, Nat.sub_zero] at h1
  have e1 : ∀ args w, (callFunc g args).run Try.prog w = .ok (.enter g args) w := eg
  have H1 : Hid (∀ W, Below w.heap.size w W → Calls Try.prog g (pre ++ (#[.string ⟨#[]⟩, .int .i64 n] ++ cb)) W fun e w' => e = .returned (.int .i64 ((cK I n [] : Nat) : Int)) ∧ Below W.heap.size W w') := h1
  obtain ⟨C, hC⟩ : ∃ C, C = cK I n [] := ⟨_, rfl⟩
  rw [← hC] at H1 hx
  clear h1 hg eg hC
  by_cases h0 : x < 0
  · clear hx
    go_enter Try.func41, Try.ntmps41
    go_wp2
    go_ret2
    exact ⟨rfl, Below.refl _ _⟩
  · have hx' : (C : Int) ≤ x := by omega
    clear hx
    go_enter Try.func41, Try.ntmps41
    go_wp2_with (go_at_fn g; refine (H1.out _ (Below.refl _ _)).mono ?_; rintro e w1 ⟨rfl, b1⟩)
    go_ret2
    exact ⟨rfl, b1⟩
set_option maxRecDepth 100000 in
set_option maxHeartbeats 4000000 in
theorem rdRank_any (g : Nat) (pre cb : Array Value) (I : List UInt8 → Bool) (n r : Nat) (T : List UInt8) (x : Int) (w : World) (eg : Ent g) (hg : Cnts g pre cb n I w) (h9 : n ≤ 9) (hx : x = (r : Int)) (hT : (LK I n [])[r]? = some T) :
    Calls Try.prog 41 #[.func (.func g) pre cb, .int .i64 n, .int .i64 x] w fun e w' => e = .returned (.tuple #[.string ⟨T.toArray⟩, .bool true]) ∧ Below w.heap.size w w' := by
  have hrc : r < cK I n [] := (List.getElem?_eq_some_iff.1 hT).1
  have hcb := cK_bd I n [] h9
  have h1 := fun W hW => hg [] W rfl (Nat.zero_le _) hW
  rw [List.length_nil, Nat.sub_zero] at h1
  have e1 : ∀ args w, (callFunc g args).run Try.prog w = .ok (.enter g args) w := eg
  have H1 : Hid (∀ W, Below w.heap.size w W → Calls Try.prog g (pre ++ (#[.string ⟨#[]⟩, .int .i64 n] ++ cb)) W fun e w' => e = .returned (.int .i64 ((cK I n [] : Nat) : Int)) ∧ Below W.heap.size W w') := h1
  obtain ⟨C, hC⟩ : ∃ C, C = cK I n [] := ⟨_, rfl⟩
  have HG := Lib.hid hg
  have HT := Lib.hid hT
  have hcalls : ∀ (b : List UInt8) (k d : Nat) (W : World), b.length = k → k < n → digB b = true → d ≤ 9 → Below w.heap.size w W → Calls Try.prog g (pre ++ (#[.string (⟨b.toArray⟩ ++ ⟨[dc d].toArray⟩), .int .i64 n] ++ cb)) W fun e w' => e = .returned (.int .i64 ((cK I (n - (k + 1)) (b ++ [dc d]) : Nat) : Int)) ∧ Below W.heap.size W w' := by
    intro b k d W hbk hk hb hd hW
    have := HG.out (b ++ [dc d]) W (digB_dc hb (by omega)) (by simp; omega) hW
    rw [str_two]
    rw [show n - (b ++ [dc d]).length = n - (k + 1) by simp; omega] at this
    exact this
  have HC := Lib.hid hcalls
  have HCC := Lib.hid hC
  have HR0 : Hid (r < cK I n []) := hrc
  rw [← hC] at H1 hrc hcb
  clear h1 hg eg hC hcalls hT
  subst hx
  have hdc1 : decide ((r : Int) < 0) = false := decide_eq_false (by omega)
  have hdc2 : decide (C ≤ r) = false := decide_eq_false (by omega)
  have hdc3 : decide ((C : Int) ≤ (r : Int)) = false := decide_eq_false (by omega)
  go_enter Try.func41, Try.ntmps41
  go_wp2_with (go_at_fn g; refine (H1.out _ (Below.refl _ _)).mono ?_; rintro e w1 ⟨rfl, b1⟩)
  go_loopw [2, 8, 21] (fun rv bv i wr => ∃ (k q : Nat) (b : List UInt8) (B : ByteArray), k ≤ n ∧ i = .int .i64 k ∧ rv = .int .i64 q ∧ bv = .string B ∧ Hid (B = ⟨b.toArray⟩ ∧ b.length = k ∧ digB b = true ∧ (LK I (n - k) b)[q]? = some T) ∧ q ≤ 1000000000 ∧ B.size ≤ 9 ∧ Below w.heap.size w wr) (fun _ _ i _ => n - (intOf i).toNat)
  case atStart => exact ⟨0, r, [], ⟨#[]⟩, Nat.zero_le _, rfl, rfl, rfl, ⟨rfl, rfl, rfl, HT.out⟩, by omega, by show 0 ≤ 9; omega, b1⟩
  case round =>
    obtain ⟨k, q, b, B, hk, rfl, rfl, rfl, HB, hqb, hBz, hbl⟩ := hrel
    by_cases hlt : k < n
    · have hBe := HB.out.1
      have hbk := HB.out.2.1
      have hbd := HB.out.2.2.1
      obtain ⟨l, hl⟩ : ∃ l, n - k = l + 1 := ⟨n - k - 1, by omega⟩
      have hln : n - (k + 1) = l := by omega
      obtain ⟨f, hf⟩ : ∃ f : Nat → Nat, f = (fun d => cK I l (b ++ [dc d])) := ⟨_, rfl⟩
      have HFC : Hid (∀ d W, d ≤ 9 → Below w.heap.size w W → Calls Try.prog g (pre ++ (#[.string (B ++ ⟨[dc d].toArray⟩), .int .i64 n] ++ cb)) W fun e w' => e = .returned (.int .i64 ((f d : Nat) : Int)) ∧ Below W.heap.size W w') := by
        intro d W hd hW
        have := HC.out b k d W hbk hlt hbd hd hW
        rw [hln] at this
        rw [hBe, hf]; exact this
      have HF0 : Hid (∀ W, Below w.heap.size w W → Calls Try.prog g (pre ++ (#[.string (B ++ ⟨#[48]⟩), .int .i64 n] ++ cb)) W fun e w' => e = .returned (.int .i64 ((f 0 : Nat) : Int)) ∧ Below W.heap.size W w') := fun W hW => HFC.out 0 W (by omega) hW
      have HAT : Hid (∀ d, d < 10 → sm f d ≤ q → q < sm f (d + 1) → (LK I l (b ++ [dc d]))[q - sm f d]? = some T) := by
        intro d hd h1 h2
        have h3 := HB.out.2.2.2
        rw [hl, LK_at I l b d q hd (by rw [hf] at h1; exact h1) (by rw [hf] at h2; exact h2)] at h3
        rw [hf]; exact h3
      have HTEN : Hid (q < sm f 10) := by
        show _ < _
        have h3 := (List.getElem?_eq_some_iff.1 HB.out.2.2.2).1
        have h4 : (LK I (n - k) b).length = cK I (l + 1) b := by rw [hl]; rfl
        rw [h4, cK_succ] at h3
        rw [hf]; exact h3
      have HFB : Hid (∀ d, f d ≤ 1000000000) := by intro d; rw [hf]; exact cK_bd I l _ (by omega)
      have HBB : Hid (B = ⟨b.toArray⟩ ∧ b.length = k ∧ digB b = true) := ⟨hBe, hbk, hbd⟩
      clear hBe hbk hbd hf HB
      have HL := Lib.hid hln
      clear hln hl
      obtain ⟨wo, rfl⟩ : ∃ wo : World, wo = wr := ⟨_, rfl⟩
      have hf0 := HFB.out 0
      obtain ⟨f0, hf0e⟩ : ∃ f0, f0 = f 0 := ⟨_, rfl⟩
      have HF0E := Lib.hid hf0e
      rw [← hf0e] at HF0 hf0
      clear hf0e
      go_wp2_with (go_at_fn g; refine (HF0.out _ hbl).mono ?_; rintro e w2 ⟨rfl, b2⟩)
      have B2 := chain hbl b2
      go_loopw [2, 9, 10] (fun rv dv wv wr => ∃ (d q' v : Nat), d ≤ 9 ∧ dv = .int .u8 (48 + (d : Int)) ∧ rv = .int .i64 q' ∧ wv = .int .i64 v ∧ q' ≤ 1000000000 ∧ v ≤ 1000000000 ∧ Hid (q = q' + sm f d ∧ v = f d) ∧ Below w.heap.size w wr) (fun _ dv _ _ => (58 - intOf dv).toNat)
      case atStart => exact ⟨0, q, f0, by omega, by simp, rfl, rfl, hqb, hf0, ⟨rfl, HF0E.out⟩, B2⟩
      case round =>
        obtain ⟨d, q', v, hd9, rfl, rfl, rfl, hq', hv, HQ, hbl'⟩ := hrel
        by_cases hge : (v : Int) ≤ (q' : Int)
        · have hd8 : d + 1 ≤ 9 := by
            rcases Nat.lt_or_ge d 9 with h | h
            · omega
            · exfalso
              have h1 := HTEN.out
              have h2 := HQ.out.1
              have h3 := HQ.out.2
              have h4 : d = 9 := by omega
              subst h4
              have : sm f 10 = sm f 9 + f 9 := rfl
              omega
          have hc := HFC.out (d + 1)
          have HC1 : Hid (∀ W, Below w.heap.size w W → Calls Try.prog g (pre ++ (#[.string (B ++ ⟨[dc (d + 1)].toArray⟩), .int .i64 n] ++ cb)) W fun e w' => e = .returned (.int .i64 ((f (d + 1) : Nat) : Int)) ∧ Below W.heap.size W w') := fun W hW => hc W hd8 hW
          have HE := enc_dig (d + 1) hd8
          have hee : (48 : Int) + ((d + 1 : Nat) : Int) = 48 + (d : Int) + 1 := by omega
          rw [hee] at HE
          have hv2 := HFB.out (d + 1)
          have HN : Hid (q = (q' - v) + sm f (d + 1) ∧ f (d + 1) = f (d + 1)) := by
            refine ⟨?_, rfl⟩
            have h2 := HQ.out.1
            have h3 := HQ.out.2
            simp only [sm]; omega
          obtain ⟨D, hD⟩ : ∃ D : ByteArray, D = ⟨[dc (d + 1)].toArray⟩ := ⟨_, rfl⟩
          rw [← hD] at HC1 HE
          obtain ⟨v2, hv2e⟩ : ∃ v2, v2 = f (d + 1) := ⟨_, rfl⟩
          have HV2 := Lib.hid hv2e
          rw [← hv2e] at HC1 hv2
          have HD8 := Lib.hid hd8
          obtain ⟨z, hz⟩ : ∃ z : Nat, (q' : Int) - (v : Int) = (z : Int) := ⟨q' - v, by omega⟩
          have hzb : z ≤ 1000000000 := by omega
          have HZ : Hid (q = z + sm f (d + 1)) := by show _ = _; have := HN.out.1; omega
          have hDz : D.size = 1 := by rw [hD, sz_of]; rfl
          have hbz : B.size + D.size ≤ 10 := by omega
          clear hc hD hee hv2e hd8
          go_wp2_with (go_at_fn g; refine (HC1.out _ hbl').mono ?_; rintro e w3 ⟨rfl, b3⟩)
          go_roundw
          case rel => exact ⟨d + 1, z, v2, HD8.out, val_int (by omega), rfl, rfl, hzb, hv2, ⟨HZ.out, HV2.out⟩, chain hbl' b3⟩
          case measure => simp [intOf]; omega
        · have HE := enc_dig d hd9
          have HN : Hid (B ++ ⟨[dc d].toArray⟩ = ⟨(b ++ [dc d]).toArray⟩ ∧ (b ++ [dc d]).length = k + 1 ∧ digB (b ++ [dc d]) = true ∧ (LK I (n - (k + 1)) (b ++ [dc d]))[q']? = some T) := by
            refine ⟨by rw [HBB.out.1, str_two], by simp; exact HBB.out.2.1, digB_dc HBB.out.2.2 (by omega), ?_⟩
            have h2 := HQ.out.1
            have h3 := HQ.out.2
            have := HAT.out d (by omega) (by omega) (by simp only [sm]; omega)
            rw [HL.out, show q' = q - sm f d by omega]; exact this
          have hz9 : (B ++ (⟨[dc d].toArray⟩ : ByteArray)).size ≤ 9 := by
            rw [HN.out.1, sz_of, HN.out.2.1]; omega
          obtain ⟨D, hD⟩ : ∃ D : ByteArray, D = ⟨[dc d].toArray⟩ := ⟨_, rfl⟩
          rw [← hD] at HN HE hz9
          have hDz : D.size = 1 := by rw [hD, sz_of]; rfl
          have hbz : B.size + D.size ≤ 10 := by omega
          clear hD
          go_wp2
          go_roundw
          case rel => exact ⟨k + 1, q', b ++ [dc d], B ++ D, by omega, by go_num, rfl, rfl, HN, hq', hz9, hbl'⟩
          case measure => simp [intOf]; omega
    · have HX : Hid (B = ⟨T.toArray⟩) := by
        show _ = _
        obtain ⟨h1, h2, h3, h4⟩ := HB.out
        rw [show n - k = 0 by omega, LK] at h4
        split at h4
        · rw [h1]
          have hq0 : q = 0 := by
            rcases Nat.eq_zero_or_pos q with h | h
            · exact h
            · rw [List.getElem?_eq_none (by simp; omega)] at h4; cases h4
          rw [hq0] at h4
          have : b = T := by simpa using h4
          rw [this]
        · simp at h4
      go_wp2
      go_ret2
      exact ⟨ret_sb HX.out rfl, hbl⟩
end Go.Proofs.Ytlkeemnnncnibab
