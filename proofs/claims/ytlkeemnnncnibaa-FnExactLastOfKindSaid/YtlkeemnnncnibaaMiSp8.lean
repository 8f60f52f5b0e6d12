/-
  Readings: the first one of a kind behind another, and the next one, as the model finds them.
-/
import Derived.Test.YtlkeemnnncnibaaMiSp7
namespace Go.Proofs.Ytlkeemnnncnibaa
open Go.RowKit

theorem ext_take' (t : List UInt8) (k : Nat) : (⟨t.toArray⟩ : ByteArray).extract 0 k = ⟨(t.take k).toArray⟩ := by
  apply ByteArray.ext
  simp [ByteArray.data_extract]
theorem LF_nil (I : List UInt8 → Bool) (l : Nat) (b beh : List UInt8) (h : cK I l b = 0) : LF I l b beh = [] := by
  unfold LF
  unfold cK at h
  rw [List.length_eq_zero_iff.1 h]; rfl
theorem LF_ne (I : List UInt8 → Bool) (l : Nat) (b beh t : List UInt8) (hb : b ≠ []) (h : t ∈ LF I l b beh) : t ≠ [] := by
  unfold LF at h
  obtain ⟨_, r, hr, _, _⟩ := LK_mem _ _ _ _ (List.mem_filter.1 h).1
  rw [hr]; intro he
  exact hb (List.append_eq_nil_iff.1 he).1
theorem bl_nil (c : UInt8) (l : List UInt8) : bl [] (c :: l) = true := rfl
/-- What the model's search for the first one answers. -/
def fst (I : List UInt8 → Bool) (l : Nat) (b beh : List UInt8) : ByteArray := ⟨(hdl (LF I l b beh)).toArray⟩
theorem fst_no {I : List UInt8 → Bool} {l : Nat} {b beh : List UInt8} (h : LF I l b beh = []) : fst I l b beh = ⟨#[]⟩ := by unfold fst; rw [h]; rfl
theorem fst_empty {I : List UInt8 → Bool} {l : Nat} {b beh : List UInt8} (hb : b ≠ []) : ((fst I l b beh).toList == []) = decide (LF I l b beh = []) := by
  unfold fst
  rw [toL]
  have := hd_nil (L := LF I l b beh) (fun t ht => LF_ne I l b beh t hb ht)
  by_cases h : LF I l b beh = []
  · rw [decide_eq_true h, this.2 h]; rfl
  · rw [decide_eq_false h, beq_eq_false_iff_ne]; exact fun e => h (this.1 e)
theorem eTL : (⟨#[]⟩ : ByteArray).toList = [] := toL []
set_option maxHeartbeats 2000000 in
theorem miFirst_any (n : Nat) (k : ByteArray) (beh : List UInt8) (h1 : 1 ≤ n) (hn : n ≤ 9) (hk : kB k = true) (hbeh : beh = [] ∨ beh.length = n) (l : Nat) : ∀ (b : List UInt8) (w : World), b.length + l = n → digB b = true →
    Calls Try.prog 47 #[.int .i64 n, .string ⟨b.toArray⟩, .string k, .string ⟨beh.toArray⟩] w fun e w' => e = .returned (.string (fst (KI n k) l b beh)) ∧ Below w.heap.size w w' := by
  induction l with
  | zero =>
    intro b w hbl hd
    have hcan := fun W => miCan_any n b k W hn (by omega) hd hk
    have hc0 : ∀ v, Can n k b v → v = KI n k b := fun v hv => hv.1 (by omega)
    have HCAN : Hid (∀ W, Calls Try.prog 69 #[.int .i64 n, .string ⟨b.toArray⟩, .string k] W fun e w' => e = .returned (.bool (KI n k b)) ∧ Below W.heap.size W w') := by
      intro W
      refine (hcan W).mono ?_
      rintro e w' ⟨⟨v, hv, hc⟩, hb⟩
      exact ⟨by rw [hv, hc0 v hc], hb⟩
    have hLF : LF (KI n k) 0 b beh = if KI n k b && bl beh b then [b] else [] := by
      unfold LF; rw [LK]
      cases KI n k b <;> cases hx : bl beh b <;> simp [hx]
    obtain ⟨s, hs⟩ : ∃ s : ByteArray, s = ⟨b.toArray⟩ := ⟨_, rfl⟩
    obtain ⟨B, hB⟩ : ∃ B : ByteArray, B = ⟨beh.toArray⟩ := ⟨_, rfl⟩
    have hsz : (s.size : Int) = (n : Int) := by rw [hs, sz_of]; omega
    have hsT : s.toList = b := by rw [hs, toL]
    have hBT : B.toList = beh := by rw [hB, toL]
    rw [← hs] at HCAN
    rw [← hs, ← hB]
    cases hI : KI n k b with
    | false =>
      rw [hI] at HCAN
      have HX : Hid (fst (KI n k) 0 b beh = ⟨#[]⟩) := fst_no (by rw [hLF, hI]; rfl)
      clear hcan hc0 hLF hI hs hB hsT hBT hbl hd hbeh
      go_enter Try.func47, Try.ntmps47
      go_wp2_with (go_at_call 69; (with_reducible refine (HCAN.out _).mono ?_); rintro e w1 ⟨rfl, b1⟩)
      go_ret
      exact ⟨ret_str HX.out.symm, b1⟩
    | true =>
      rw [hI] at HCAN
      rcases hbeh with hbe | hbe
      · have HX : Hid (fst (KI n k) 0 b beh = s) := by
          show _ = _
          unfold fst
          have hb2 : bl beh b = true := by
            rw [hbe]
            cases b with
            | nil => simp at hbl; omega
            | cons c b => rfl
          rw [hLF, hI, hb2, hs]; rfl
        have hBe : (B.toList == []) = true := by rw [hBT, hbe]; rfl
        clear hcan hc0 hLF hI hs hB hsT hBT hbl hd hbe
        go_enter Try.func47, Try.ntmps47
        go_wp2_with (go_at_call 69; (with_reducible refine (HCAN.out _).mono ?_); rintro e w1 ⟨rfl, b1⟩)
        go_ret
        exact ⟨ret_str HX.out.symm, b1⟩
      · have hBe : (B.toList == []) = false := by
          rw [hBT, beq_eq_false_iff_ne]; intro h; rw [h] at hbe; simp at hbe; omega
        have hBs : (B.size : Int) = (n : Int) := by rw [hB, sz_of]; omega
        obtain ⟨E, hE⟩ : ∃ E : ByteArray, B.extract 0 s.size = E := ⟨_, rfl⟩
        have hE2 : B.extract 0 n = E := by rw [← hE]; congr 1; omega
        have hEB : E.toList = beh := by
          rw [← hE, hB, ext_take', toL]
          exact List.take_of_length_le (by omega)
        cases hl1 : bl b beh with
        | true =>
          have HX : Hid (fst (KI n k) 0 b beh = ⟨#[]⟩) := fst_no (by rw [hLF, bl_asym hl1]; simp)
          have hq1 : Op.bytesLess s.toList E.toList = true := by rw [hsT, hEB]; exact hl1
          have hle : s.size ≤ B.size := by omega
          clear hcan hc0 hLF hI hs hB hsT hBT hbl hd hbe hEB hl1
          go_enter Try.func47, Try.ntmps47
          go_wp2_with (go_at_call 69; (with_reducible refine (HCAN.out _).mono ?_); rintro e w1 ⟨rfl, b1⟩)
          go_ret
          exact ⟨ret_str HX.out.symm, b1⟩
        | false =>
          have hq1 : Op.bytesLess s.toList E.toList = false := by rw [hsT, hEB]; exact hl1
          have hq2 : Op.bytesLess s.toList B.toList = false := by rw [hsT, hBT]; exact hl1
          have hle : s.size ≤ B.size := by omega
          by_cases heq : b = beh
          · have HX : Hid (fst (KI n k) 0 b beh = ⟨#[]⟩) := fst_no (by rw [hLF, heq, bl_irr]; simp)
            have hq3 : (s.toList == B.toList) = true := by rw [hsT, hBT, heq]; simp
            clear hcan hc0 hLF hI hs hB hsT hBT hbl hd hbe hEB hl1 heq
            go_enter Try.func47, Try.ntmps47
            go_wp2_with (go_at_call 69; (with_reducible refine (HCAN.out _).mono ?_); rintro e w1 ⟨rfl, b1⟩)
            go_ret
            exact ⟨ret_str HX.out.symm, b1⟩
          · have HX : Hid (fst (KI n k) 0 b beh = s) := by
              show _ = _
              unfold fst
              have hb2 : bl beh b = true := by
                cases hx : bl beh b with
                | true => rfl
                | false => exact absurd (bl_tri _ _ hl1 hx) heq
              rw [hLF, hI, hb2, hs]; rfl
            have hq3 : (s.toList == B.toList) = false := by rw [hsT, hBT, beq_eq_false_iff_ne]; exact heq
            clear hcan hc0 hLF hI hs hB hsT hBT hbl hd hbe hEB hl1 heq
            go_enter Try.func47, Try.ntmps47
            go_wp2_with (go_at_call 69; (with_reducible refine (HCAN.out _).mono ?_); rintro e w1 ⟨rfl, b1⟩)
            go_ret
            exact ⟨ret_str HX.out.symm, b1⟩
  | succ l ih =>
    intro b w hbl hd
    have hcan := fun W => miCan_any n b k W hn (by omega) hd hk
    have HNO : Hid (Can n k b false → fst (KI n k) (l + 1) b beh = ⟨#[]⟩) := fun hc => fst_no (LF_nil _ _ _ _ (by have := hc.2 rfl; rwa [show n - b.length = l + 1 by omega] at this))
    obtain ⟨f, hf⟩ : ∃ f : Nat → List (List UInt8), f = (fun d => LF (KI n k) l (b ++ [dc d]) beh) := ⟨_, rfl⟩
    have HIH : Hid (∀ d W, d ≤ 9 → Calls Try.prog 47 #[.int .i64 n, .string (⟨b.toArray⟩ ++ ⟨[dc d].toArray⟩), .string k, .string ⟨beh.toArray⟩] W fun e w' => e = .returned (.string ⟨(hdl (f d)).toArray⟩) ∧ Below W.heap.size W w') := by
      intro d W hd9
      have := ih (b ++ [dc d]) W (by simp; omega) (digB_dc hd (by omega))
      rw [str_two, hf]
      exact this
    have HFE : Hid (∀ d, d ≤ 9 → ((⟨(hdl (f d)).toArray⟩ : ByteArray).toList == []) = decide (f d = [])) := by
      intro d _
      rw [hf]
      exact fst_empty (by simp)
    have HALL : Hid ((∀ d, d < 10 → f d = []) → fst (KI n k) (l + 1) b beh = ⟨#[]⟩) := by
      intro h
      refine fst_no ?_
      rw [LF_succ, ← hf]
      exact hd_none f 10 h
    have HHIT : Hid (∀ d, d < 10 → (∀ e, e < d → f e = []) → f d ≠ [] → fst (KI n k) (l + 1) b beh = ⟨(hdl (f d)).toArray⟩) := by
      intro d hd10 h0 hne
      unfold fst
      rw [LF_succ, ← hf, hd_flat f 10 d hd10 h0 hne]
    have HPRE : Hid (bl b (beh.take b.length) = true → beh.length = n → fst (KI n k) (l + 1) b beh = ⟨#[]⟩) := fun hx hy => fst_no (LF_pre _ _ _ _ (by omega) hx)
    clear ih hf
    obtain ⟨s, hs⟩ : ∃ s : ByteArray, s = ⟨b.toArray⟩ := ⟨_, rfl⟩
    obtain ⟨B, hB⟩ : ∃ B : ByteArray, B = ⟨beh.toArray⟩ := ⟨_, rfl⟩
    have hsl : s.size = b.length := by rw [hs, sz_of]
    have hsz : (s.size : Int) < (n : Int) := by omega
    have hsn : ((s.size : Int) == (n : Int)) = false := beq_eq_false_iff_ne.2 (by omega)
    have hs9 : s.size ≤ 9 := by omega
    have hsT : s.toList = b := by rw [hs, toL]
    have hBT : B.toList = beh := by rw [hB, toL]
    have HCAN := Lib.hid hcan
    clear hcan
    rw [← hs] at HCAN HIH
    rw [← hB] at HIH
    rw [← hs, ← hB]
    obtain ⟨X0, hX0⟩ : ∃ X0, X0 = fst (KI n k) (l + 1) b beh := ⟨_, rfl⟩
    rw [← hX0] at HNO HALL HHIT HPRE ⊢
    clear hX0
    have main : ∀ (hcase : (B.toList == []) = true ∨ ((B.toList == []) = false ∧ beh.length = n ∧ bl b (beh.take b.length) = false)),
        Calls Try.prog 47 #[.int .i64 n, .string s, .string k, .string B] w fun e w' => e = .returned (.string X0) ∧ Below w.heap.size w w' := by
      intro hcase
      have HEX : Hid (∀ E : ByteArray, B.extract 0 s.size = E → (B.toList == []) = false → Op.bytesLess s.toList E.toList = false ∧ s.size ≤ B.size) := by
        intro E hE hne
        rcases hcase with h | ⟨_, h2, h3⟩
        · rw [h] at hne; cases hne
        · refine ⟨?_, ?_⟩
          · rw [← hE, hB, ext_take', hsT, toL (List.take s.size beh), hsl]; exact h3
          · rw [hB, sz_of beh, h2]; omega
      obtain ⟨E, hE⟩ : ∃ E : ByteArray, B.extract 0 s.size = E := ⟨_, rfl⟩
      have HE2 := Lib.hid (HEX.out E hE)
      clear HEX hcase HPRE hs hB hsT hBT hsl hbl hd hbeh
      cases hBe : (B.toList == []) with
      | true =>
        clear HE2 hE
        go_enter Try.func47, Try.ntmps47
        go_wp2_with (go_at_call 69; (with_reducible refine (HCAN.out _).mono ?_); rintro e w1 ⟨⟨v, rfl, hv⟩, b1⟩; cases v)
        · have HX := Lib.hid (HNO.out hv)
          clear hv
          go_wp2
          go_ret
          exact ⟨ret_str HX.out.symm, b1⟩
        · clear hv HNO
          go_wp2
          go_loopw [9] (fun dv wr => ∃ d : Nat, d ≤ 10 ∧ dv = .int .i64 d ∧ Hid (∀ e, e < d → f e = []) ∧ Below w.heap.size w wr) (fun dv _ => 10 - (intOf dv).toNat)
          case atStart => exact ⟨0, Nat.zero_le _, rfl, fun e he => by omega, b1⟩
          case round =>
            obtain ⟨d, hd10, rfl, HZ, hbl2⟩ := hrel
            by_cases hlt : d < 10
            · have HNU := Lib.hid (fun W => num_d d (d : Int) W (by omega) rfl)
              have HF1 := Lib.hid (fun W => HIH.out d W (by omega))
              have hFE := HFE.out d (by omega)
              obtain ⟨D, hD⟩ : ∃ D : ByteArray, D = ⟨[dc d].toArray⟩ := ⟨_, rfl⟩
              have hDz : D.size = 1 := by rw [hD, sz_of]; rfl
              have hDs : s.size + D.size ≤ 10 := by omega
              obtain ⟨X, hX⟩ : ∃ X : ByteArray, X = ⟨(hdl (f d)).toArray⟩ := ⟨_, rfl⟩
              rw [← hD] at HNU HF1
              rw [← hX] at HF1 hFE
              by_cases hfd : f d = []
              · rw [decide_eq_true hfd] at hFE
                have HZ2 : Hid (∀ e, e < d + 1 → f e = []) := by
                  intro e he
                  rcases Nat.lt_or_ge e d with h | h
                  · exact HZ.out e h
                  · rw [show e = d by omega]; exact hfd
                clear hD hX hfd
                go_wp2_with (first | (go_at_call 49; (with_reducible refine (HNU.out _).mono ?_); rintro e w2 ⟨rfl, b2⟩) | (go_at_call 47; (with_reducible refine (HF1.out _).mono ?_); rintro e w3 ⟨rfl, b3⟩))
                go_roundw
                case rel => exact ⟨d + 1, by omega, by go_num, HZ2, chain (chain hbl2 b2) b3⟩
                case measure => simp [intOf]; omega
              · rw [decide_eq_false hfd] at hFE
                have HX : Hid (X0 = X) := by show _ = _; rw [hX]; exact HHIT.out d hlt HZ.out hfd
                clear hD hX hfd
                go_wp2_with (first | (go_at_call 49; (with_reducible refine (HNU.out _).mono ?_); rintro e w2 ⟨rfl, b2⟩) | (go_at_call 47; (with_reducible refine (HF1.out _).mono ?_); rintro e w3 ⟨rfl, b3⟩))
                go_ret
                exact ⟨ret_str HX.out.symm, chain (chain hbl2 b2) b3⟩
            · have HX : Hid (X0 = ⟨#[]⟩) := HALL.out (fun e he => HZ.out e (by omega))
              go_wp2
              go_ret
              exact ⟨ret_str HX.out.symm, hbl2⟩
      | false =>
        obtain ⟨hless, hle⟩ := HE2.out hBe
        clear HE2
        go_enter Try.func47, Try.ntmps47
        go_wp2_with (go_at_call 69; (with_reducible refine (HCAN.out _).mono ?_); rintro e w1 ⟨⟨v, rfl, hv⟩, b1⟩; cases v)
        · have HX := Lib.hid (HNO.out hv)
          clear hv
          go_wp2
          go_ret
          exact ⟨ret_str HX.out.symm, b1⟩
        · clear hv HNO
          go_wp2
          go_loopw [9] (fun dv wr => ∃ d : Nat, d ≤ 10 ∧ dv = .int .i64 d ∧ Hid (∀ e, e < d → f e = []) ∧ Below w.heap.size w wr) (fun dv _ => 10 - (intOf dv).toNat)
          case atStart => exact ⟨0, Nat.zero_le _, rfl, fun e he => by omega, b1⟩
          case round =>
            obtain ⟨d, hd10, rfl, HZ, hbl2⟩ := hrel
            by_cases hlt : d < 10
            · have HNU := Lib.hid (fun W => num_d d (d : Int) W (by omega) rfl)
              have HF1 := Lib.hid (fun W => HIH.out d W (by omega))
              have hFE := HFE.out d (by omega)
              obtain ⟨D, hD⟩ : ∃ D : ByteArray, D = ⟨[dc d].toArray⟩ := ⟨_, rfl⟩
              have hDz : D.size = 1 := by rw [hD, sz_of]; rfl
              have hDs : s.size + D.size ≤ 10 := by omega
              obtain ⟨X, hX⟩ : ∃ X : ByteArray, X = ⟨(hdl (f d)).toArray⟩ := ⟨_, rfl⟩
              rw [← hD] at HNU HF1
              rw [← hX] at HF1 hFE
              by_cases hfd : f d = []
              · rw [decide_eq_true hfd] at hFE
                have HZ2 : Hid (∀ e, e < d + 1 → f e = []) := by
                  intro e he
                  rcases Nat.lt_or_ge e d with h | h
                  · exact HZ.out e h
                  · rw [show e = d by omega]; exact hfd
                clear hD hX hfd
                go_wp2_with (first | (go_at_call 49; (with_reducible refine (HNU.out _).mono ?_); rintro e w2 ⟨rfl, b2⟩) | (go_at_call 47; (with_reducible refine (HF1.out _).mono ?_); rintro e w3 ⟨rfl, b3⟩))
                go_roundw
                case rel => exact ⟨d + 1, by omega, by go_num, HZ2, chain (chain hbl2 b2) b3⟩
                case measure => simp [intOf]; omega
              · rw [decide_eq_false hfd] at hFE
                have HX : Hid (X0 = X) := by show _ = _; rw [hX]; exact HHIT.out d hlt HZ.out hfd
                clear hD hX hfd
                go_wp2_with (first | (go_at_call 49; (with_reducible refine (HNU.out _).mono ?_); rintro e w2 ⟨rfl, b2⟩) | (go_at_call 47; (with_reducible refine (HF1.out _).mono ?_); rintro e w3 ⟨rfl, b3⟩))
                go_ret
                exact ⟨ret_str HX.out.symm, chain (chain hbl2 b2) b3⟩
            · have HX : Hid (X0 = ⟨#[]⟩) := HALL.out (fun e he => HZ.out e (by omega))
              go_wp2
              go_ret
              exact ⟨ret_str HX.out.symm, hbl2⟩
    rcases hbeh with hbe | hbe
    · exact main (.inl (by rw [hBT, hbe]; rfl))
    · have hne : (B.toList == []) = false := by
        rw [hBT, beq_eq_false_iff_ne]; intro h; rw [h] at hbe; simp at hbe; omega
      cases hpre : bl b (beh.take b.length) with
      | false => exact main (.inr ⟨hne, hbe, hpre⟩)
      | true =>
        have HX := Lib.hid (HPRE.out hpre hbe)
        obtain ⟨E, hE⟩ : ∃ E : ByteArray, B.extract 0 s.size = E := ⟨_, rfl⟩
        have hq1 : Op.bytesLess s.toList E.toList = true := by rw [← hE, hB, ext_take', hsT, toL (List.take s.size beh), hsl]; exact hpre
        have hle : s.size ≤ B.size := by rw [hB, sz_of beh, hbe]; omega
        clear main HIH HFE HALL HHIT HPRE hs hB hsT hBT hsl hbl hd hpre
        go_enter Try.func47, Try.ntmps47
        go_wp2_with (go_at_call 69; (with_reducible refine (HCAN.out _).mono ?_); rintro e w1 ⟨⟨v, rfl, hv⟩, b1⟩; cases v)
        all_goals
          clear hv
          go_wp2
          go_ret
          exact ⟨ret_str HX.out.symm, b1⟩
end Go.Proofs.Ytlkeemnnncnibaa
