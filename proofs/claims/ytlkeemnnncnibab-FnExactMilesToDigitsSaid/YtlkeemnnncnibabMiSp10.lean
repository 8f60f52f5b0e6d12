/-
  Readings: the first one with so many different digits.
-/
import Derived.Test.YtlkeemnnncnibabMiIm9
import Derived.Test.YtlkeemnnncnibabMiSp2
namespace Go.Proofs.Ytlkeemnnncnibab
open Go.RowKit

/-- Those that begin so and do not come before a text. -/
def LE (I : List UInt8 → Bool) (l : Nat) (b fr : List UInt8) : List (List UInt8) := (LK I l b).filter (fun t => !bl t fr)
theorem LE_succ (I : List UInt8 → Bool) (l : Nat) (b fr : List UInt8) : LE I (l + 1) b fr = (List.range 10).flatMap (fun d => LE I l (b ++ [dc d]) fr) := by
  unfold LE; rw [LK, List.filter_flatMap]
theorem LE_pre (I : List UInt8 → Bool) (l : Nat) (b fr : List UInt8) (hl : b.length ≤ fr.length) (h : bl b (fr.take b.length) = true) : LE I l b fr = [] := by
  unfold LE
  rw [List.filter_eq_nil_iff]
  intro t ht
  obtain ⟨_, r, hr, _, _⟩ := LK_mem _ _ _ _ ht
  have h1 := bl_ext b (fr.take b.length) r (fr.drop b.length) (by simp; omega) h
  rw [List.take_append_drop, ← hr] at h1
  rw [h1]; simp
theorem LE_nil (I : List UInt8 → Bool) (l : Nat) (b fr : List UInt8) (h : cK I l b = 0) : LE I l b fr = [] := by
  unfold LE
  unfold cK at h
  rw [List.length_eq_zero_iff.1 h]; rfl
theorem LE_ne (I : List UInt8 → Bool) (l : Nat) (b fr t : List UInt8) (hb : 1 ≤ b.length + l) (h : t ∈ LE I l b fr) : t ≠ [] := by
  unfold LE at h
  obtain ⟨_, r, hr, hrl, _⟩ := LK_mem _ _ _ _ (List.mem_filter.1 h).1
  rw [hr]; intro he
  have := congrArg List.length he
  rw [List.length_append, hrl] at this
  have h0 : b.length + l = 0 := this
  omega
def som (m : Nat) (l : Nat) (b fr : List UInt8) : ByteArray := ⟨(hdl (LE (Id m) l b fr)).toArray⟩
theorem som_no {m l : Nat} {b fr : List UInt8} (h : LE (Id m) l b fr = []) : som m l b fr = ⟨#[]⟩ := by unfold som; rw [h]; rfl
theorem som_empty {m l : Nat} {b fr : List UInt8} (hb : 1 ≤ b.length + l) : ((som m l b fr).toList == []) = decide (LE (Id m) l b fr = []) := by
  unfold som
  rw [toL]
  have := hd_nil (L := LE (Id m) l b fr) (fun t ht => LE_ne _ l b fr t hb ht)
  by_cases h : LE (Id m) l b fr = []
  · rw [decide_eq_true h, this.2 h]; rfl
  · rw [decide_eq_false h, beq_eq_false_iff_ne]; exact fun e => h (this.1 e)
theorem ext_tk (t : List UInt8) (k : Nat) : (⟨t.toArray⟩ : ByteArray).extract 0 k = ⟨(t.take k).toArray⟩ := by
  apply ByteArray.ext
  simp [ByteArray.data_extract]
set_option maxHeartbeats 2000000 in
theorem miSome_any (n m : Nat) (fr : List UInt8) (hn : n ≤ 9) (hm : m ≤ 9) (hfr : fr.length = n) (l : Nat) : ∀ (b : List UInt8) (w : World), b.length + l = n → digB b = true →
    Calls Try.prog 32 #[.string ⟨fr.toArray⟩, .string ⟨b.toArray⟩, .int .i64 m] w fun e w' => e = .returned (.string (som m l b fr)) ∧ Below w.heap.size w w' := by
  induction l with
  | zero =>
    intro b w hbl hd
    have hdg := fun W => miDigits_any ⟨b.toArray⟩ W (by rw [sz_of]; omega) hd
    have e1 : (⟨b.toArray⟩ : ByteArray).data.toList = b := rfl
    rw [e1] at hdg
    have hdle := df_le' b
    have HP1 : Hid (bl b (fr.take b.length) = true → som m 0 b fr = ⟨#[]⟩) := fun h => som_no (LE_pre _ _ _ _ (by omega) h)
    have HP2 : Hid ((m < df b ∨ df b + 0 < m) → som m 0 b fr = ⟨#[]⟩) := fun h => som_no (LE_nil _ _ _ _ (by rw [cK_dif m 0 b hd]; exact wd_no _ _ _ h))
    have HP3 : Hid (bl b (fr.take b.length) = false → df b = m → som m 0 b fr = ⟨b.toArray⟩) := by
      intro h1 h2
      rw [List.take_of_length_le (by omega)] at h1
      unfold som LE
      rw [LK]
      unfold Id
      rw [h2]
      simp [h1, hdl]
    obtain ⟨F, hF⟩ : ∃ F : ByteArray, F = ⟨fr.toArray⟩ := ⟨_, rfl⟩
    obtain ⟨s, hs⟩ : ∃ s : ByteArray, s = ⟨b.toArray⟩ := ⟨_, rfl⟩
    have hsl : s.size = b.length := by rw [hs, sz_of]
    have hFs : (F.size : Int) = (n : Int) := by rw [hF, sz_of]; omega
    have hss : (s.size : Int) = (n : Int) := by omega
    have hsT : s.toList = b := by rw [hs, toL]
    obtain ⟨E, hE⟩ : ∃ E : ByteArray, F.extract 0 s.size = E := ⟨_, rfl⟩
    have hE2 : F.extract 0 n = E := by rw [← hE]; congr 1; omega
    have hle : s.size ≤ F.size := by omega
    have hless : Op.bytesLess s.toList E.toList = bl b (fr.take b.length) := by rw [← hE, hF, ext_tk, hsT, toL (List.take s.size fr), hsl]
    obtain ⟨D, hD⟩ : ∃ D, D = df b := ⟨_, rfl⟩
    rw [← hs] at hdg
    rw [← hD] at hdg HP2 HP3 hdle
    rw [← hF, ← hs]
    rw [← hs] at HP3
    obtain ⟨X0, hX0⟩ : ∃ X0, X0 = som m 0 b fr := ⟨_, rfl⟩
    rw [← hX0] at HP1 HP2 HP3 ⊢
    have HDG := Lib.hid hdg
    have hD9 : D ≤ 9 := by omega
    obtain ⟨q, hq⟩ : ∃ q, q = bl b (fr.take b.length) := ⟨_, rfl⟩
    rw [← hq] at hless HP1 HP3
    clear hdg hD hX0 hs hF hsT hsl hq hbl hdle hd e1 hfr
    cases q with
    | true =>
      have HX := Lib.hid (HP1.out rfl)
      go_enter Try.func32, Try.ntmps32
      go_wp2_with (go_at_call 28; (with_reducible refine (HDG.out _).mono ?_); rintro e w1 ⟨rfl, b1⟩)
      go_ret
      exact ⟨ret_str HX.out.symm, b1⟩
    | false =>
      by_cases h1 : m < D
      · have HX := Lib.hid (HP2.out (.inl h1))
        go_enter Try.func32, Try.ntmps32
        go_wp2_with (go_at_call 28; (with_reducible refine (HDG.out _).mono ?_); rintro e w1 ⟨rfl, b1⟩)
        go_ret
        exact ⟨ret_str HX.out.symm, b1⟩
      · by_cases h2 : D < m
        · have HX := Lib.hid (HP2.out (.inr (by omega)))
          go_enter Try.func32, Try.ntmps32
          go_wp2_with (go_at_call 28; (with_reducible refine (HDG.out _).mono ?_); rintro e w1 ⟨rfl, b1⟩)
          go_ret
          exact ⟨ret_str HX.out.symm, b1⟩
        · have HX := Lib.hid (HP3.out rfl (by omega))
          go_enter Try.func32, Try.ntmps32
          go_wp2_with (go_at_call 28; (with_reducible refine (HDG.out _).mono ?_); rintro e w1 ⟨rfl, b1⟩)
          go_ret
          exact ⟨ret_str HX.out.symm, b1⟩
  | succ l ih =>
    intro b w hbl hd
    have hdg := fun W => miDigits_any ⟨b.toArray⟩ W (by rw [sz_of]; omega) hd
    have e1 : (⟨b.toArray⟩ : ByteArray).data.toList = b := rfl
    rw [e1] at hdg
    have hdle := df_le' b
    have HP1 : Hid (bl b (fr.take b.length) = true → som m (l + 1) b fr = ⟨#[]⟩) := fun h => som_no (LE_pre _ _ _ _ (by omega) h)
    have HP2 : Hid ((m < df b ∨ df b + (l + 1) < m) → som m (l + 1) b fr = ⟨#[]⟩) := fun h => som_no (LE_nil _ _ _ _ (by rw [cK_dif m (l + 1) b hd]; exact wd_no _ _ _ h))
    obtain ⟨f, hf⟩ : ∃ f : Nat → List (List UInt8), f = (fun d => LE (Id m) l (b ++ [dc d]) fr) := ⟨_, rfl⟩
    have HIH : Hid (∀ d W, d ≤ 9 → Calls Try.prog 32 #[.string ⟨fr.toArray⟩, .string (⟨b.toArray⟩ ++ ⟨[dc d].toArray⟩), .int .i64 m] W fun e w' => e = .returned (.string ⟨(hdl (f d)).toArray⟩) ∧ Below W.heap.size W w') := by
      intro d W hd9
      have := ih (b ++ [dc d]) W (by simp; omega) (digB_dc hd (by omega))
      rw [str_two, hf]
      exact this
    have HFE : Hid (∀ d, d ≤ 9 → ((⟨(hdl (f d)).toArray⟩ : ByteArray).toList == []) = decide (f d = [])) := by
      intro d _
      rw [hf]
      exact som_empty (by simp; omega)
    have HALL : Hid ((∀ d, d < 10 → f d = []) → som m (l + 1) b fr = ⟨#[]⟩) := by
      intro h
      refine som_no ?_
      rw [LE_succ, ← hf]
      exact hd_none f 10 h
    have HHIT : Hid (∀ d, d < 10 → (∀ e, e < d → f e = []) → f d ≠ [] → som m (l + 1) b fr = ⟨(hdl (f d)).toArray⟩) := by
      intro d hd10 h0 hne
      unfold som
      rw [LE_succ, ← hf, hd_flat f 10 d hd10 h0 hne]
    clear ih hf
    obtain ⟨F, hF⟩ : ∃ F : ByteArray, F = ⟨fr.toArray⟩ := ⟨_, rfl⟩
    obtain ⟨s, hs⟩ : ∃ s : ByteArray, s = ⟨b.toArray⟩ := ⟨_, rfl⟩
    have hsl : s.size = b.length := by rw [hs, sz_of]
    have hFs : (F.size : Int) - (s.size : Int) = (l : Int) + 1 := by rw [hF, sz_of]; omega
    have hsT : s.toList = b := by rw [hs, toL]
    obtain ⟨E, hE⟩ : ∃ E : ByteArray, F.extract 0 s.size = E := ⟨_, rfl⟩
    have hle : s.size ≤ F.size := by omega
    have hs9 : s.size ≤ 9 := by omega
    have hless : Op.bytesLess s.toList E.toList = bl b (fr.take b.length) := by rw [← hE, hF, ext_tk, hsT, toL (List.take s.size fr), hsl]
    obtain ⟨D, hD⟩ : ∃ D, D = df b := ⟨_, rfl⟩
    rw [← hs] at hdg HIH
    rw [← hF] at HIH
    rw [← hD] at hdg HP2 hdle
    rw [← hF, ← hs]
    obtain ⟨X0, hX0⟩ : ∃ X0, X0 = som m (l + 1) b fr := ⟨_, rfl⟩
    rw [← hX0] at HP1 HP2 HALL HHIT ⊢
    have HDG := Lib.hid hdg
    have hD9 : D ≤ 9 := by omega
    have hl9 : l ≤ 9 := by omega
    obtain ⟨q, hq⟩ : ∃ q, q = bl b (fr.take b.length) := ⟨_, rfl⟩
    rw [← hq] at hless HP1
    clear hdg hD hX0 hs hF hsT hsl hq hbl hdle hd e1 hfr
    cases q with
    | true =>
      have HX := Lib.hid (HP1.out rfl)
      go_enter Try.func32, Try.ntmps32
      go_wp2_with (go_at_call 28; (with_reducible refine (HDG.out _).mono ?_); rintro e w1 ⟨rfl, b1⟩)
      go_ret
      exact ⟨ret_str HX.out.symm, b1⟩
    | false =>
      by_cases h1 : m < D
      · have HX := Lib.hid (HP2.out (.inl h1))
        go_enter Try.func32, Try.ntmps32
        go_wp2_with (go_at_call 28; (with_reducible refine (HDG.out _).mono ?_); rintro e w1 ⟨rfl, b1⟩)
        go_ret
        exact ⟨ret_str HX.out.symm, b1⟩
      · by_cases h2 : D + (l + 1) < m
        · have HX := Lib.hid (HP2.out (.inr h2))
          go_enter Try.func32, Try.ntmps32
          go_wp2_with (go_at_call 28; (with_reducible refine (HDG.out _).mono ?_); rintro e w1 ⟨rfl, b1⟩)
          go_ret
          exact ⟨ret_str HX.out.symm, b1⟩
        · have hl0 : ((l : Int) + 1 == 0) = false := beq_eq_false_iff_ne.2 (by omega)
          clear HP1 HP2
          go_enter Try.func32, Try.ntmps32
          go_wp2_with (go_at_call 28; (with_reducible refine (HDG.out _).mono ?_); rintro e w1 ⟨rfl, b1⟩)
          clear h1 h2
          go_loopw [9] (fun dv wr => ∃ d : Nat, d ≤ 10 ∧ dv = .int .i64 d ∧ Hid (∀ e, e < d → f e = []) ∧ Below w.heap.size w wr) (fun dv _ => 10 - (intOf dv).toNat)
          case atStart => exact ⟨0, Nat.zero_le _, rfl, fun e he => by omega, b1⟩
          case round =>
            obtain ⟨d, hd10, rfl, HZ, hbl2⟩ := hrel
            by_cases hlt : d < 10
            · have HNU := Lib.hid (fun W => num_d d (d : Int) W (by omega) rfl)
              have HF1 := Lib.hid (fun W => HIH.out d W (by omega))
              have hFE := HFE.out d (by omega)
              obtain ⟨DD, hDD⟩ : ∃ DD : ByteArray, DD = ⟨[dc d].toArray⟩ := ⟨_, rfl⟩
              have hDz : DD.size = 1 := by rw [hDD, sz_of]; rfl
              have hDs : s.size + DD.size ≤ 10 := by omega
              obtain ⟨X, hX⟩ : ∃ X : ByteArray, X = ⟨(hdl (f d)).toArray⟩ := ⟨_, rfl⟩
              rw [← hDD] at HNU HF1
              rw [← hX] at HF1 hFE
              by_cases hfd : f d = []
              · rw [decide_eq_true hfd] at hFE
                have HZ2 : Hid (∀ e, e < d + 1 → f e = []) := by
                  intro e he
                  rcases Nat.lt_or_ge e d with h | h
                  · exact HZ.out e h
                  · rw [show e = d by omega]; exact hfd
                clear hDD hX hfd
                go_wp2_with (first | (go_at_call 51; (with_reducible refine (HNU.out _).mono ?_); rintro e w2 ⟨rfl, b2⟩) | (go_at_call 32; (with_reducible refine (HF1.out _).mono ?_); rintro e w3 ⟨rfl, b3⟩))
                go_roundw
                case rel => exact ⟨d + 1, by omega, by go_num, HZ2, chain (chain hbl2 b2) b3⟩
                case measure => simp [intOf]; omega
              · rw [decide_eq_false hfd] at hFE
                have HX : Hid (X0 = X) := by show _ = _; rw [hX]; exact HHIT.out d hlt HZ.out hfd
                clear hDD hX hfd
                go_wp2_with (first | (go_at_call 51; (with_reducible refine (HNU.out _).mono ?_); rintro e w2 ⟨rfl, b2⟩) | (go_at_call 32; (with_reducible refine (HF1.out _).mono ?_); rintro e w3 ⟨rfl, b3⟩))
                go_ret
                exact ⟨ret_str HX.out.symm, chain (chain hbl2 b2) b3⟩
            · have HX : Hid (X0 = ⟨#[]⟩) := HALL.out (fun e he => HZ.out e (by omega))
              go_wp2
              go_ret
              exact ⟨ret_str HX.out.symm, hbl2⟩
end Go.Proofs.Ytlkeemnnncnibab
