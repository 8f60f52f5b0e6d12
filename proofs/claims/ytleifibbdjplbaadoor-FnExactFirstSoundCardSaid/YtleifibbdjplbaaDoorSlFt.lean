/-
  The law of FirstSound.
-/
import Derived.Test.YtleifibbdjplbaaDoorSlFf
namespace Go.Proofs.YtleifibbdjplbaaDoor
open Go.RowKit

theorem zer_put0 (L p : Nat) (hp : p < L) : putD (zer L) p 0 = zer L := by
  have h0 : (zer L).length = L := by simp [zer]
  refine List.ext_getElem? fun i => ?_
  by_cases hi : i < L
  · have h1 := putD_get (zer L) p 0 i (by omega)
    have hz : (zer L).getD i 48 = 48 := by unfold zer; rw [List.getD_eq_getElem?_getD, List.getElem?_replicate, if_pos hi]; rfl
    rw [hz] at h1
    have h2 : (putD (zer L) p 0).getD i 48 = 48 := by rw [h1]; split <;> rfl
    have hl : (putD (zer L) p 0).length = L := by rw [putD_len _ _ _ (by omega), h0]
    rw [List.getD_eq_getElem?_getD, List.getElem?_eq_getElem (by omega)] at h2 hz
    rw [List.getElem?_eq_getElem (by omega), List.getElem?_eq_getElem (by omega)]
    simpa using h2.trans hz.symm
  · have hl : (putD (zer L) p 0).length = L := by rw [putD_len _ _ _ (by omega), h0]
    rw [List.getElem?_eq_none (by omega), List.getElem?_eq_none (by omega)]
theorem nT_one (L p d : Nat) (hp : p + 1 = L) (h2 : 2 ≤ L) (hd : d ≤ 9) : putD (zer L) p d = nT L d := by
  unfold nT
  rw [show d / 10 = 0 by omega, show d % 10 = d by omega, zer_put0 L (L - 2) (by omega), show L - 1 = p by omega]
theorem nT_pair (L p d e : Nat) (hp : p + 2 = L) (he : e ≤ 9) : putD (putD (zer L) p d) (p + 1) e = nT L (10 * d + e) := by
  unfold nT
  rw [show (10 * d + e) / 10 = d by omega, show (10 * d + e) % 10 = e by omega, show L - 2 = p by omega, show L - 1 = p + 1 by omega]
theorem bytes_ext {a b : ByteArray} (h : a.data.toList = b.data.toList) : a = b := ByteArray.ext (Array.ext' h)
set_option maxHeartbeats 8000000 in
theorem sFs_any (xs : List Int) (m : Int) (v : Value) (w : World) (hn : xs.length ≤ 1048576) (h : RdI xs v w) :
    Calls Tryd.prog 14 #[.agg #[v, .int .i64 m]] w fun e w' => e = .returned (.tuple #[.string (fsA xs m), .bool (chkB xs m)]) ∧ Below w.heap.size w w' := by
  have HV := Lib.hid h
  obtain ⟨a, cap, rfl, _⟩ := h
  have HG := Lib.hid (fun W hr => slGood_any xs m _ W hn hr : ∀ W, RdI xs (.slice a xs.length cap) W → _)
  obtain ⟨n, hnn⟩ : ∃ n, n = xs.length := ⟨_, rfl⟩
  cases hb : chkB xs m with
  | false =>
    have HZ : Hid (⟨#[]⟩ = fsA xs m) := by show _ = _; unfold fsA; rw [if_neg (by simp [hb])]
    rw [hb] at HG
    rw [← hnn] at HV HG ⊢
    clear hb hnn
    go_enter Tryd.func14, Tryd.ntmps14
    go_wp2_with (go_at_call 42; (with_reducible refine (HG.out _ (HV.out.below (by go_grown))).mono ?_); rintro e w1 ⟨rfl, b1⟩)
    go_ret2
    exact ⟨ret_sb HZ.out rfl, chain (w := w) (by go_grown) b1⟩
  | true =>
    obtain ⟨h2, ho⟩ := (chkB_iff _ _).1 hb
    have hn12 : xs.length ≤ 12 := ho.len
    obtain ⟨hN1, hN100, hNs, hNl⟩ := fsK_spec hb
    have HZ : Hid (fsA xs m = nS xs.length (fsK xs m)) := by show _ = _; unfold fsA; rw [if_pos hb]
    obtain ⟨N, hN⟩ : ∃ N, N = fsK xs m := ⟨_, rfl⟩
    rw [← hN] at hN1 hN100 hNs hNl HZ
    rw [hb] at HG
    obtain ⟨p, hp⟩ : ∃ p, p + 2 = xs.length := ⟨xs.length - 2, by omega⟩
    have hzs := zS_size xs.length
    have HF0 : Hid (∀ d W, d ≤ 9 → RdI xs (.slice a xs.length cap) W → Calls Tryd.prog 43 #[.agg #[.slice a xs.length cap, .int .i64 m], .string (putS (zS xs.length) (p + 1) d), .int .i64 xs.length] W fun e w' => e = .returned (.tuple #[.string (putS (zS xs.length) (p + 1) d), .bool (sndB xs m (nT xs.length d))]) ∧ Below W.heap.size W w') := fun d W h9 hr => by
      have := fill0_any xs m (putS (zS xs.length) (p + 1) d) _ W ho (by rw [putS_size _ _ _ (by omega), hzs]) (by rw [putS_list]; exact putD_dig _ _ _ h9 (zer_dig _)) hr
      rw [putS_list, zS_list, nT_one xs.length (p + 1) d (by omega) h2 h9] at this
      exact this
    have HF1 : Hid (∀ d D W, d ≤ 9 → D ≤ 10 → (∀ e, e < D → sndB xs m (nT xs.length (10 * d + e)) = false) → (D < 10 → sndB xs m (nT xs.length (10 * d + D)) = true) → RdI xs (.slice a xs.length cap) W → Calls Tryd.prog 43 #[.agg #[.slice a xs.length cap, .int .i64 m], .string (putS (zS xs.length) p d), .int .i64 (p + 1 : Nat)] W fun e w' => e = .returned (.tuple #[.string (if D < 10 then nS xs.length (10 * d + D) else ⟨#[]⟩), .bool (decide (D < 10))]) ∧ Below W.heap.size W w') := fun d D W h9 hD hno hyes hr => by
      have hz1 : (putS (zS xs.length) p d).size = xs.length := by rw [putS_size _ _ _ (by omega), hzs]
      have hq : ∀ e, e ≤ 9 → putD (putS (zS xs.length) p d).data.toList (p + 1) e = nT xs.length (10 * d + e) := fun e he => by rw [putS_list, zS_list]; exact nT_pair xs.length p d e hp he
      have := fill1_any xs m (putS (zS xs.length) p d) (p + 1) D _ W ho hz1 (by omega) (by rw [putS_list]; exact putD_dig _ _ _ h9 (zer_dig _)) hr hD (fun e he => by rw [hq e (by omega)]; exact hno e he) (fun h => by rw [hq D (by omega)]; exact hyes h)
      by_cases hD10 : D < 10
      · rw [if_pos hD10] at this ⊢
        rw [show putS (putS (zS xs.length) p d) (p + 1) D = nS xs.length (10 * d + D) from bytes_ext (by rw [putS_list, hq D (by omega)]; rfl)] at this
        exact this
      · rw [if_neg hD10] at this ⊢
        exact this
    have HS1 : Hid (∀ d, d ≤ 9 → putS (zS xs.length) (p + 1) d = nS xs.length d) := fun d h9 => bytes_ext (by rw [putS_list, zS_list, nT_one xs.length (p + 1) d (by omega) h2 h9]; rfl)
    have HNS := Lib.hid hNs
    have HNL := Lib.hid hNl
    rw [← hnn] at HV HG h2 hn12 HNS HNL HZ HF0 HF1 HS1 hzs hp ⊢
    clear hb hnn hN hNs hNl ho
    go_enter Tryd.func14, Tryd.ntmps14
    go_wp2_with (go_at_call 42; (with_reducible refine (HG.out _ (HV.out.below (by go_grown))).mono ?_); rintro e w1 ⟨rfl, b1⟩; have B1 : Below w.heap.size w w1 := chain (w := w) (by go_grown) b1; obtain ⟨c0, c1, hz⟩ := box2_kept b1)
    have HB1 := Lib.hid B1
    clear B1 b1
    go_loop [4, 15] (fun zv iv => ∃ k : Nat, k ≤ n ∧ zv = .string (zS k) ∧ iv = .int .i64 k) (fun _ iv => n - (intOf iv).toNat)
    case atStart => exact ⟨0, Nat.zero_le _, rfl, rfl⟩
    case round =>
      obtain ⟨k, hk, rfl, rfl⟩ := hrel
      by_cases hlt : k < n
      · have hzk := zS_size k
        have hov : ¬ 9223372036854775807 < (zS k).size + 1 := by rw [hzk]; omega
        have HSN : Hid (zS k ++ (⟨#[48]⟩ : ByteArray) = zS (k + 1)) := zS_snoc k
        go_wp2
        go_round
        case rel => exact ⟨k + 1, by omega, by rw [← HSN.out], by go_num⟩
        case measure => simp [intOf]; omega
      · have hkn : n = k := by omega
        subst hkn
        have hp1 : (n : Int) - 1 = ((p + 1 : Nat) : Int) := by omega
        obtain ⟨q, hq⟩ : ∃ q, q = p + 1 := ⟨_, rfl⟩
        rw [← hq] at hp1 HF0 HF1 HS1
        have hwq : IntKind.i64.wrap (q : Int) = (q : Int) := IntWalk.i64_in _ (by omega)
        have HQQ := Lib.hid hq
        clear hq
        go_wp2_with fail
        go_loopw [5] (fun pv wr => ((pv = .int .i64 q) ∨ (pv = .int .i64 p ∧ 10 ≤ N)) ∧ Below w1.heap.size w1 wr) (fun pv _ => (intOf pv + 1).toNat)
        case atStart => exact ⟨.inl rfl, Below.refl _ _⟩
        case round =>
          obtain ⟨hpv, hbp⟩ := hrel
          have hq := HQQ.out
          rcases hpv with rfl | ⟨rfl, h10⟩
          · have hq0 : (0 : Int) ≤ (q : Int) := by omega
            have hq1 : (q : Int) + 1 = (n : Int) := by omega
            have hwn : IntKind.i64.wrap (n : Int) = (n : Int) := IntWalk.i64_in _ (by omega)
            have hqp : (q : Int) - 1 = (p : Int) := by omega
            have hwp : IntKind.i64.wrap (p : Int) = (p : Int) := IntWalk.i64_in _ (by omega)
            have HQS : Hid (q < (zS n).size ∧ (zS n).size ≤ 1000000) := by show _ ∧ _; rw [hzs]; omega
            have HPQ := Lib.hid hq
            clear hq hzs
            go_wp2_with fail
            go_loopw [6] (fun iv wr => ∃ k : Nat, 1 ≤ k ∧ k ≤ 10 ∧ k ≤ N ∧ iv = .int .i64 k ∧ Below w1.heap.size w1 wr) (fun iv _ => 11 - (intOf iv).toNat)
            case atStart => exact ⟨1, Nat.le_refl _, by omega, by omega, rfl, hbp⟩
            case round =>
              obtain ⟨k, hk1, hk10, hkN, rfl, hb⟩ := hrel
              obtain ⟨wo, rfl⟩ : ∃ wo : World, wo = wr := ⟨_, rfl⟩
              by_cases hlt : k < 10
              · obtain ⟨e0, e1, ez⟩ := keep2 hz c0 c1 hb
                have HBo := Lib.hid hb
                have HVo : Hid (RdI xs (.slice a n cap) wo) := HV.out.below (chain HB1.out hb)
                by_cases hkD : k < N
                · have hF := fun W hr => HF0.out k W (by omega) hr; rw [HNL.out k hk1 hkD] at hF
                  have HFF := Lib.hid hF
                  clear hF
                  go_wp2_with fail
                  go_region_held3 (fun w' => w'.cell? ⟨w.heap.size, 0, none⟩ = some (.slice a n cap) ∧ w'.cell? ⟨w.heap.size, 1, none⟩ = some (.int .i64 m))
                    (first | go_keep | exact ⟨k0, k1⟩ | exact ⟨l0, l1⟩)
                    (first
                    | (go_at_call 37; (with_reducible refine (slPut_any (zS n) q k _ HQS.out.2 HQS.out.1 (by omega)).mono ?_); rintro e w3 ⟨rfl, b3⟩; have B3 : Below wo.heap.size wo w3 := chain (w := wo) (by go_grown) b3; obtain ⟨k0, k1, kz⟩ := keep2 ez e0 e1 B3)
                    | (go_at_call 43; (with_reducible refine (HFF.out _ (HVo.out.below B3)).mono ?_); rintro e w4 ⟨rfl, b4⟩; have B4 : Below wo.heap.size wo w4 := chain B3 b4; obtain ⟨l0, l1, lz⟩ := keep2 ez e0 e1 B4))
                  all_goals
                    go_wp2
                    go_roundw
                    case rel => exact ⟨k + 1, by omega, by omega, by omega, by go_num, chain HBo.out B4⟩
                    case measure => simp [intOf]; omega
                · have hkk : k = N := by omega
                  have hF := fun W hr => HF0.out k W (by omega) hr; have hs := HNS.out; rw [← hkk] at hs; rw [hs] at hF; have HEND : Hid (putS (zS n) q k = fsA xs m) := by (show _ = _; rw [HZ.out, ← hkk, HS1.out k (by omega)])
                  clear hkk
                  have HFF := Lib.hid hF
                  clear hF
                  go_wp2_with fail
                  go_region_held3 (fun w' => w'.cell? ⟨w.heap.size, 0, none⟩ = some (.slice a n cap) ∧ w'.cell? ⟨w.heap.size, 1, none⟩ = some (.int .i64 m))
                    (first | go_keep | exact ⟨k0, k1⟩ | exact ⟨l0, l1⟩)
                    (first
                    | (go_at_call 37; (with_reducible refine (slPut_any (zS n) q k _ HQS.out.2 HQS.out.1 (by omega)).mono ?_); rintro e w3 ⟨rfl, b3⟩; have B3 : Below wo.heap.size wo w3 := chain (w := wo) (by go_grown) b3; obtain ⟨k0, k1, kz⟩ := keep2 ez e0 e1 B3)
                    | (go_at_call 43; (with_reducible refine (HFF.out _ (HVo.out.below B3)).mono ?_); rintro e w4 ⟨rfl, b4⟩; have B4 : Below wo.heap.size wo w4 := chain B3 b4; obtain ⟨l0, l1, lz⟩ := keep2 ez e0 e1 B4))
                  all_goals
                    go_wp2
                    go_ret2
                    exact ⟨ret_sb HEND.out rfl, chain HB1.out (chain HBo.out B4)⟩
              · go_wp2
                go_roundw
                case rel => exact ⟨.inr ⟨rfl, by omega⟩, hb⟩
                case measure => simp [intOf]; omega
          · have hq0 : (0 : Int) ≤ (p : Int) := by omega
            have hq1 : (p : Int) + 1 = (q : Int) := by omega
            have HQS : Hid (p < (zS n).size ∧ (zS n).size ≤ 1000000) := by show _ ∧ _; rw [hzs]; omega
            have HPQ := Lib.hid hq
            have h100 : N / 10 ≤ 9 := by omega
            have h1N : 1 ≤ N / 10 := by omega
            obtain ⟨em, hem⟩ : ∃ em : ByteArray, em = ⟨#[]⟩ := ⟨_, rfl⟩
            have HEM := Lib.hid hem
            clear hem
            clear hq hzs
            go_wp2_with fail
            go_loopw [6] (fun iv wr => ∃ k : Nat, 1 ≤ k ∧ k ≤ 10 ∧ k ≤ N / 10 ∧ iv = .int .i64 k ∧ Below w1.heap.size w1 wr) (fun iv _ => 11 - (intOf iv).toNat)
            case atStart => exact ⟨1, Nat.le_refl _, by omega, by omega, rfl, hbp⟩
            case round =>
              obtain ⟨k, hk1, hk10, hkN, rfl, hb⟩ := hrel
              obtain ⟨wo, rfl⟩ : ∃ wo : World, wo = wr := ⟨_, rfl⟩
              by_cases hlt : k < 10
              · obtain ⟨e0, e1, ez⟩ := keep2 hz c0 c1 hb
                have HBo := Lib.hid hb
                have HVo : Hid (RdI xs (.slice a n cap) wo) := HV.out.below (chain HB1.out hb)
                by_cases hkD : k < N / 10
                · have hF := fun W hr => HF1.out k 10 W (by omega) (by omega) (fun e he => HNL.out (10 * k + e) (by omega) (by omega)) (fun h => absurd h (by omega)) hr; rw [if_neg (show ¬ 10 < 10 by omega), decide_eq_false (show ¬ 10 < 10 by omega), ← HEM.out] at hF
                  have HFF := Lib.hid hF
                  clear hF
                  go_wp2_with fail
                  go_region_held3 (fun w' => w'.cell? ⟨w.heap.size, 0, none⟩ = some (.slice a n cap) ∧ w'.cell? ⟨w.heap.size, 1, none⟩ = some (.int .i64 m))
                    (first | go_keep | exact ⟨k0, k1⟩ | exact ⟨l0, l1⟩)
                    (first
                    | (go_at_call 37; (with_reducible refine (slPut_any (zS n) p k _ HQS.out.2 HQS.out.1 (by omega)).mono ?_); rintro e w3 ⟨rfl, b3⟩; have B3 : Below wo.heap.size wo w3 := chain (w := wo) (by go_grown) b3; obtain ⟨k0, k1, kz⟩ := keep2 ez e0 e1 B3)
                    | (go_at_call 43; (with_reducible refine (HFF.out _ (HVo.out.below B3)).mono ?_); rintro e w4 ⟨rfl, b4⟩; have B4 : Below wo.heap.size wo w4 := chain B3 b4; obtain ⟨l0, l1, lz⟩ := keep2 ez e0 e1 B4))
                  all_goals
                    go_wp2
                    go_roundw
                    case rel => exact ⟨k + 1, by omega, by omega, by omega, by go_num, chain HBo.out B4⟩
                    case measure => simp [intOf]; omega
                · have hkk : k = N / 10 := by omega
                  have hF := fun W hr => HF1.out k (N % 10) W (by omega) (by omega) (fun e he => HNL.out (10 * k + e) (by omega) (by omega)) (fun _ => by rw [show 10 * k + N % 10 = N by omega]; exact HNS.out) hr; rw [if_pos (show N % 10 < 10 by omega), decide_eq_true (show N % 10 < 10 by omega), show 10 * k + N % 10 = N by omega] at hF; have HEND : Hid (nS n N = fsA xs m) := HZ.out.symm
                  clear hkk
                  have HFF := Lib.hid hF
                  clear hF
                  go_wp2_with fail
                  go_region_held3 (fun w' => w'.cell? ⟨w.heap.size, 0, none⟩ = some (.slice a n cap) ∧ w'.cell? ⟨w.heap.size, 1, none⟩ = some (.int .i64 m))
                    (first | go_keep | exact ⟨k0, k1⟩ | exact ⟨l0, l1⟩)
                    (first
                    | (go_at_call 37; (with_reducible refine (slPut_any (zS n) p k _ HQS.out.2 HQS.out.1 (by omega)).mono ?_); rintro e w3 ⟨rfl, b3⟩; have B3 : Below wo.heap.size wo w3 := chain (w := wo) (by go_grown) b3; obtain ⟨k0, k1, kz⟩ := keep2 ez e0 e1 B3)
                    | (go_at_call 43; (with_reducible refine (HFF.out _ (HVo.out.below B3)).mono ?_); rintro e w4 ⟨rfl, b4⟩; have B4 : Below wo.heap.size wo w4 := chain B3 b4; obtain ⟨l0, l1, lz⟩ := keep2 ez e0 e1 B4))
                  all_goals
                    go_wp2
                    go_ret2
                    exact ⟨ret_sb HEND.out rfl, chain HB1.out (chain HBo.out B4)⟩
              · omega
set_option maxHeartbeats 2000000 in
theorem FnExactFirstSound_law (xs : List Int) (m : Int) (v : Value) (hn : xs.length ≤ maxLen) (_hm : (Lit.int .i64 m).wf = true) (w : World) (h : RdI xs v w) :
    Calls Tryd.prog 4 #[.agg #[v, .int .i64 m]] w fun e w' => e = .returned (.bool true) ∧ Below w.heap.size w w' := by
  have hnm := hn
  unfold maxLen at hn
  have HV := Lib.hid h
  have hs1 : xs.length ≤ 1048576 → ∀ u W, RdI xs u W → Calls Tryd.prog 14 #[.agg #[u, .int .i64 m]] W fun e w' => e = .returned ((.tuple #[.string (fsA xs m), .bool (chkB xs m)])) ∧ Below W.heap.size W w' := fun hn u W hr => sFs_any xs m u W hn hr
  have hi1 : xs.length ≤ 1048576 → ∀ u W, RdI xs u W → Calls Tryd.prog 15 #[.agg #[u, .int .i64 m]] W fun e w' => e = .returned ((.tuple #[.string (fsA xs m), .bool (chkB xs m)])) ∧ Below W.heap.size W w' := fun hn u W hr => iFs_any xs m u W hn hr
  obtain ⟨A0, hA0⟩ : ∃ A0 : ByteArray, A0 = fsA xs m := ⟨_, rfl⟩
  obtain ⟨A1, hA1⟩ : ∃ A1 : Bool, A1 = chkB xs m := ⟨_, rfl⟩
  rw [← hA0, ← hA1] at hs1 hi1
  have HS := Lib.hid hs1
  have HI := Lib.hid hi1
  clear h hs1 hi1 hA0 hA1
  go_enter Tryd.func4, Tryd.ntmps4
  go_wp2_with (go_at_call 9; go_must ((with_reducible refine (szCheck_any xs m v _ hnm (HV.out.below (by go_grown))).mono ?_); rintro e w1 ⟨⟨r, rfl, hr⟩, b1⟩; obtain ⟨c0, c1, hz⟩ := box2_kept b1; by_cases hr0 : r < 0))
  all_goals go_wp2_with fail
  · go_ret
    exact ⟨rfl, chain (w := w) (by go_grown) b1⟩
  · have hN := hr (by omega)
    have B1 : Below w.heap.size w w1 := chain (w := w) (by go_grown) b1
    have A1 := HV.out.below B1
    have HS' := Lib.hid (HS.out hN)
    have HI' := Lib.hid (HI.out hN)
    clear hr b1
    go_wp2_with (first
      | (go_at_call 11; (with_reducible refine (toCheck_any xs m v _ hN A1).mono ?_); rintro e w2 ⟨⟨g2, rfl, u2⟩, b2⟩; obtain ⟨d0, d1, dz⟩ := keep2 hz c0 c1 b2; have B2 := chain B1 b2)
      | (go_at_call 14; (with_reducible refine (HS'.out _ _ u2.rd).mono ?_); rintro e w3 ⟨rfl, b3⟩; obtain ⟨e0, e1, ez⟩ := keep2 dz d0 d1 b3; have B3 := chain B2 b3; have A3 := HV.out.below B3)
      | (go_at_call 11; (with_reducible refine (toCheck_any xs m v _ hN A3).mono ?_); rintro e w4 ⟨⟨g4, rfl, u4⟩, b4⟩; obtain ⟨f0, f1, fz⟩ := keep2 ez e0 e1 b4; have B4 := chain B3 b4; have u5 := u4.below ((Below.refl _ _).alloc (Nat.le_refl _) (.cells #[.slice (some ⟨g4, 0, none⟩) xs.length xs.length, .int .i64 m] 28)); have B5 : Below w.heap.size w (w4.alloc (.cells #[.slice (some ⟨g4, 0, none⟩) xs.length xs.length, .int .i64 m] 28)) := B4.alloc B4.size _)
      | (go_at_call 15; (with_reducible refine (HI'.out _ _ u5.rd).mono ?_); rintro e w6 ⟨rfl, b6⟩; obtain ⟨x0, x1, xz⟩ := box2_kept b6; obtain ⟨y0, y1, yz⟩ := keep2 fz f0 f1 (chain (w := w4) (by go_grown) b6); have B6 := chain B5 b6; have A6 := HV.out.below B6; have u6 := u5.below b6))
    go_region_with (first
      | (go_at_call 11; (with_reducible refine (toCheck_any xs m v _ hN (A6.below (by go_grown))).mono ?_); rintro e w7 ⟨⟨g7, rfl, u7⟩, b7⟩; have B7 : Below w6.heap.size w6 w7 := chain (w := w6) (by go_grown) b7; obtain ⟨z0, z1, zz⟩ := keep2 xz x0 x1 B7)
      | (go_at_call 13; (with_reducible refine (eqCheck_yes m _ _ xs _ _ _ hN (u6.below B7) u7).mono ?_); rintro e w8 ⟨rfl, b8⟩; have B8 : Below w6.heap.size w6 w8 := chain B7 b8))
    all_goals go_wp2
    all_goals
      go_ret
      exact ⟨rfl, chain B6 B8⟩
end Go.Proofs.YtleifibbdjplbaaDoor
