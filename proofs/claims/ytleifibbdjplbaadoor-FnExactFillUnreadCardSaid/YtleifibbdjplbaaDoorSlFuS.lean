/-
  The law of FillUnread: the model, and the law.
-/
import Derived.Test.YtleifibbdjplbaaDoorSlFu
import Derived.Test.YtleifibbdjplbaaDoorSlMark
namespace Go.Proofs.YtleifibbdjplbaaDoor
open Go.RowKit

theorem get_D (s : ByteArray) (k : Nat) (h : k < s.size) : s.data.toList.getD k 48 = s[k] := by
  rw [List.getD_eq_getElem?_getD, List.getElem?_eq_getElem (by simpa using h)]
  rfl
theorem slPut_0 (s : ByteArray) (p : Nat) (w : World) (hs : s.size ≤ 1000000) (hp : p < s.size) :
    Calls Tryd.prog 37 #[.string s, .int .i64 p, .int .i64 0] w fun e w' => e = .returned (.string (putS s p 0)) ∧ Below w.heap.size w w' := slPut_any s p 0 w hs hp (by omega)
theorem fuO_no {xs : List Int} {m : Int} {t : List UInt8} (h : chkB xs m = false ∨ ¬ t.length = xs.length) : fuO xs m t = false := by
  rcases qI_cases t with ⟨hq, _⟩ | ⟨p, hq, hpl, _⟩
  · unfold fuO; rw [hq]; rfl
  · unfold fuO numB
    rw [hq, Int.toNat_natCast, putD_len _ _ _ hpl]
    rcases h with h | h
    · rw [h]; simp
    · rw [decide_eq_false h]; simp
set_option maxHeartbeats 4000000 in
theorem sFu_any (xs : List Int) (m : Int) (s : ByteArray) (v : Value) (w : World) (hn : xs.length ≤ 1048576) (hs : s.size ≤ maxLen) (h : RdI xs v w) :
    Calls Tryd.prog 24 #[.agg #[v, .int .i64 m], .string s] w fun e w' => (∃ u, e = .returned (.tuple #[u, .bool (fuO xs m s.data.toList)]) ∧ Ints w.heap.size (fuL xs m s.data.toList) u w') ∧ Below w.heap.size w w' := by
  have HV := Lib.hid h
  obtain ⟨a, cap, rfl, _⟩ := h
  have HG := Lib.hid (fun W hr => slGood_any xs m _ W hn hr : ∀ W, RdI xs (.slice a xs.length cap) W → _)
  obtain ⟨n, hnn⟩ : ∃ n, n = xs.length := ⟨_, rfl⟩
  rw [← hnn] at HV HG hn ⊢
  have hsl0 : s.data.toList.length = s.size := by simp
  cases hb : chkB xs m with
  | false =>
    have hO := fuO_no (t := s.data.toList) (.inl hb)
    have HO : Hid (false = fuO xs m s.data.toList) := hO.symm
    have HZ : Hid (fuL xs m s.data.toList = []) := by show _ = _; unfold fuL; rw [if_neg (by simp [hO])]
    rw [hb] at HG
    clear hb hnn hO hsl0
    go_enter Tryd.func24, Tryd.ntmps24
    go_wp2_with (go_at_call 42; (with_reducible refine (HG.out _ (HV.out.below (by go_grown))).mono ?_); rintro e w1 ⟨rfl, b1⟩)
    go_ret2
    exact ⟨⟨_, ret_ub HO.out, by rw [HZ.out]; exact World.ownsRow_nil _ _ _ _⟩, chain (w := w) (by go_grown) b1⟩
  | true =>
    rw [hb] at HG
    by_cases hsz : s.size = n
    case neg =>
      have hO : fuO xs m s.data.toList = false := fuO_no (t := s.data.toList) (.inr (by omega))
      have HO : Hid (false = fuO xs m s.data.toList) := hO.symm
      have HZ : Hid (fuL xs m s.data.toList = []) := by show _ = _; unfold fuL; rw [if_neg (by simp [hO])]
      have q2 : ¬ (s.size : Int) = (n : Int) := by omega
      have q1 : ((s.size : Int) != (n : Int)) = true := by simpa using q2
      clear hb hnn hO hsz hsl0
      go_enter Tryd.func24, Tryd.ntmps24
      go_wp2_with (go_at_call 42; (with_reducible refine (HG.out _ (HV.out.below (by go_grown))).mono ?_); rintro e w1 ⟨rfl, b1⟩; obtain ⟨c0, c1, hz⟩ := box2_kept b1)
      go_ret2
      exact ⟨⟨_, ret_ub HO.out, by rw [HZ.out]; exact World.ownsRow_nil _ _ _ _⟩, chain (w := w) (by go_grown) b1⟩
    case pos =>
      have ho : CkOk xs m := ((chkB_iff _ _).1 hb).2
      have hs12 : s.size ≤ 12 := by have := ho.len; omega
      have hs2 : 2 ≤ s.size := by have := ((chkB_iff _ _).1 hb).1; omega
      have q1 : ((s.size : Int) != (n : Int)) = false := by rw [hsz]; simp
      have HF : Hid (∀ q : Nat, q < s.size → s.data.toList.getD q 48 = 63 → fuO xs m s.data.toList = digB (putD s.data.toList q 0) ∧ (digB (putD s.data.toList q 0) = true → qI s.data.toList = (q : Int))) := fun q h1 h2 => fuO_iff (by omega) h2 hb (by omega)
      have HS : Hid (∀ q k W, q < s.size → k ≤ 9 → digB (putD s.data.toList q 0) = true → RdI xs (.slice a n cap) W → Calls Tryd.prog 36 #[.agg #[.slice a n cap, .int .i64 m], .string (putS s q k)] W fun e w' => e = .returned (.bool (sndB xs m (putD s.data.toList q k))) ∧ Below W.heap.size W w') := fun q k W hq hk hd hr => by
        have := slSound_any xs m (putS s q k) _ W ho (by rw [putS_size s q k hq, hsz, hnn]) (by rw [putS_list s q k]; exact putD_digs hk hd) hr
        rw [putS_list s q k] at this
        exact this
      have HLQ := Lib.hid (lastQ_cases s.data.toList s.size)
      have HQI := Lib.hid (qI_cases s.data.toList)
      clear hb hnn ho hsl0 hsz
      go_enter Tryd.func24, Tryd.ntmps24
      go_wp2_with (go_at_call 42; (with_reducible refine (HG.out _ (HV.out.below (by go_grown))).mono ?_); rintro e w1 ⟨rfl, b1⟩; have B1 : Below w.heap.size w w1 := chain (w := w) (by go_grown) b1; obtain ⟨c0, c1, hz⟩ := box2_kept b1)
      have HB1 := Lib.hid B1
      clear B1 b1 q1
      go_loop [6, 7] (fun av iv => ∃ (k : Nat) (A : Int), k ≤ s.size ∧ iv = .int .i64 k ∧ av = .int .i64 A ∧ Hid (A = lastQ s.data.toList k)) (fun _ iv => s.size - (intOf iv).toNat)
      case atStart => exact ⟨0, -1, Nat.zero_le _, rfl, rfl, rfl⟩
      case round =>
        obtain ⟨k, A, hk, rfl, rfl, HA⟩ := hrel
        by_cases hlt : k < s.size
        · have hi0 : (0 : Int) ≤ (k : Int) := by omega
          have hi1 : (k : Int) < (s.size : Int) := by omega
          by_cases hc : s[k] = 63
          · have HA2 : Hid ((k : Int) = lastQ s.data.toList (k + 1)) := by show _ = _; rw [lastQ, if_pos (by rw [get_D s k hlt]; exact hc)]
            have e1 : ((s[k].toNat : Int) == 63) = true := by rw [hc]; rfl
            have e2 : (s[k].toNat : Int) = 63 := by rw [hc]; rfl
            clear hc
            go_wp2
            go_round
            case rel => exact ⟨k + 1, _, by omega, by go_num, rfl, HA2⟩
            case measure => simp [intOf]; omega
          · have HA2 : Hid (A = lastQ s.data.toList (k + 1)) := by show _ = _; rw [lastQ, if_neg (by rw [get_D s k hlt]; exact hc), HA.out]
            have e2 : ¬ (s[k].toNat : Int) = 63 := fun e => hc (UInt8.toNat_inj.1 (by show s[k].toNat = 63; omega))
            have e1 : ((s[k].toNat : Int) == 63) = false := beq_false_of_ne e2
            clear hc
            go_wp2
            go_round
            case rel => exact ⟨k + 1, _, by omega, by go_num, rfl, HA2⟩
            case measure => simp [intOf]; omega
        · have hks : k = s.size := by omega
          subst hks
          rcases HLQ.out with ⟨hq, hno⟩ | ⟨q, hq, hqs, h63⟩
          · have hA : A = -1 := by rw [HA.out, hq]
            subst hA
            have hqi : qI s.data.toList = -1 := by
              rcases HQI.out with ⟨h, _⟩ | ⟨p, _, hpl, hp63⟩
              · exact h
              · exact absurd hp63 (hno p (by simpa using hpl))
            have hO : fuO xs m s.data.toList = false := by unfold fuO; rw [hqi]; rfl
            have HO : Hid (false = fuO xs m s.data.toList) := hO.symm
            have HZ : Hid (fuL xs m s.data.toList = []) := by show _ = _; unfold fuL; rw [if_neg (by simp [hO])]
            clear hqi hO hq hno
            go_wp2
            go_ret2
            exact ⟨⟨_, ret_ub HO.out, by rw [HZ.out]; exact World.ownsRow_nil _ _ _ _⟩, HB1.out⟩
          · have hA : A = (q : Int) := by rw [HA.out, hq]
            subst hA
            have hf := HF.out q hqs h63
            have hqn : ¬ (q : Int) < 0 := by omega
            have hqn2 : decide ((q : Int) < 0) = false := decide_eq_false hqn
            have HQS := Lib.hid hqs
            have hpz := putS_size s q 0 hqs
            have hard : ardB (putS s q 0) 1 12 = digB (putD s.data.toList q 0) := by rw [ard_yes (by rw [hpz]; omega), putS_list]
            have hsd : ∀ W : World, Calls Tryd.prog 53 #[.string (putS s q 0)] W fun e w' => e = .returned (.bool (digB (putD s.data.toList q 0))) ∧ W = w' := fun W => by
              have := slDigits_any (putS s q 0) W (by rw [hpz]; exact hs)
              rw [hard] at this
              exact this
            obtain ⟨bz, hbz⟩ : ∃ bz, bz = digB (putD s.data.toList q 0) := ⟨_, rfl⟩
            rw [← hbz] at hsd hf
            have HSD := Lib.hid hsd
            have HO : Hid (bz = fuO xs m s.data.toList) := hf.1.symm
            cases bz with
            | false =>
              have HZ : Hid (fuL xs m s.data.toList = []) := by show _ = _; unfold fuL; rw [if_neg (by simp [hf.1])]
              clear hf hbz hsd hpz hard hq h63
              go_wp2_with (first
                | (go_at_call 37; (with_reducible refine (slPut_0 s q _ (by omega) HQS.out).mono ?_); rintro e w2 ⟨rfl, b2⟩)
                | (go_at_call 53; (with_reducible refine (HSD.out _).mono ?_); rintro e w' ⟨rfl, rfl⟩))
              go_ret2
              exact ⟨⟨_, ret_ub HO.out, by rw [HZ.out]; exact World.ownsRow_nil _ _ _ _⟩, chain HB1.out b2⟩
            | true =>
              have HZ : Hid (fuL xs m s.data.toList = sdg xs m s.data.toList q 10) := by show _ = _; unfold fuL; rw [if_pos hf.1, hf.2 rfl, Int.toNat_natCast]
              have HSQ : Hid (∀ k W, k ≤ 9 → RdI xs (.slice a n cap) W → Calls Tryd.prog 36 #[.agg #[.slice a n cap, .int .i64 m], .string (putS s q k)] W fun e w' => e = .returned (.bool (sndB xs m (putD s.data.toList q k))) ∧ Below W.heap.size W w') := fun k W hk hr => HS.out q k W HQS.out hk hbz.symm hr
              clear hf hbz hsd hpz hard hq h63
              go_wp2_with (first
                | (go_at_call 37; (with_reducible refine (slPut_0 s q _ (by omega) HQS.out).mono ?_); rintro e w2 ⟨rfl, b2⟩; obtain ⟨d0, d1, dz⟩ := keep2 hz c0 c1 b2)
                | (go_at_call 53; (with_reducible refine (HSD.out _).mono ?_); rintro e w' ⟨rfl, rfl⟩))
              have HB2 : Hid (Below w.heap.size w w2) := chain HB1.out b2
              clear b2 c0 c1 hz hqs hqn hqn2 hlt hk
              go_loopw [8, 9] (fun vv iv wr => ∃ (k : Nat) (ys : List Int), k ≤ 10 ∧ iv = .int .i64 k ∧ Hid (ys = sdg xs m s.data.toList q k) ∧ Hid (Ints w2.heap.size ys vv wr) ∧ Below w2.heap.size w2 wr) (fun _ iv _ => 10 - (intOf iv).toNat)
              case atStart => exact ⟨0, [], Nat.zero_le _, rfl, rfl, World.ownsRow_nil _ _ _ _, Below.refl _ _⟩
              case round =>
                obtain ⟨k, ys, hk, rfl, HY, HI, hb⟩ := hrel
                obtain ⟨wo, rfl⟩ : ∃ wo : World, wo = wr := ⟨_, rfl⟩
                by_cases hlt : k < 10
                · obtain ⟨e0, e1, ez⟩ := keep2 dz d0 d1 hb
                  have hyl : ys.length ≤ 12 := by rw [HY.out]; have := sdg_len xs m s.data.toList q k; omega
                  have hS := fun W hr => HSQ.out k W (by omega) hr
                  have hwz := hb.size
                  have HBo := Lib.hid hb
                  have HVo : Hid (RdI xs (.slice a n cap) wo) := HV.out.below (chain HB2.out hb)
                  cases hsb : sndB xs m (putD s.data.toList q k) with
                  | true =>
                    rw [hsb] at hS
                    have HSS := Lib.hid hS
                    have HY2 : Hid (ys ++ [(k : Int)] = sdg xs m s.data.toList q (k + 1)) := by show _ = _; rw [sdg_hit hsb, HY.out]
                    clear hS hsb
                    go_wp2_with fail
                    go_region_held3 (fun w' => w'.cell? ⟨w.heap.size, 0, none⟩ = some (.slice a n cap) ∧ w'.cell? ⟨w.heap.size, 1, none⟩ = some (.int .i64 m))
                      (first | go_keep | exact ⟨k0, k1⟩ | exact ⟨l0, l1⟩)
                      (first
                      | (go_at_call 37; (with_reducible refine (slPut_any s q k _ (by omega) HQS.out (by omega)).mono ?_); rintro e w3 ⟨rfl, b3⟩; have B3 : Below wo.heap.size wo w3 := chain (w := wo) (by go_grown) b3; obtain ⟨k0, k1, kz⟩ := keep2 ez e0 e1 B3)
                      | (go_at_call 36; (with_reducible refine (HSS.out _ (HVo.out.below B3)).mono ?_); rintro e w4 ⟨rfl, b4⟩; have B4 : Below wo.heap.size wo w4 := chain B3 b4; obtain ⟨l0, l1, lz⟩ := keep2 ez e0 e1 B4))
                    all_goals
                      have HI4 := Lib.hid (HI.out.below B4)
                      have hb4 : Below w2.heap.size w2 w4 := chain HBo.out B4
                      have h4z := hb4.size
                      clear e0 e1 ez k0 k1 kz b3 B3 b4 B4 l0 l1 lz hb HI
                      go_wp2_with (at_builtin; refine wpList_append_int _ rfl _ _ rfl w2.heap.size ys _ rfl (HI4.out.alloc _) w4.heap.size (k : Int) rfl (by simp) (by omega) (by rw [World.size_alloc]; omega) ?_; intro v' w5 hI5 hg5 _)
                      go_roundw
                      case rel => exact ⟨k + 1, _, by omega, by go_num, HY2, hI5, (hb4.alloc h4z _).trans hg5⟩
                      case measure => simp [intOf]; omega
                  | false =>
                    rw [hsb] at hS
                    have HSS := Lib.hid hS
                    have HY2 : Hid (ys = sdg xs m s.data.toList q (k + 1)) := by show _ = _; rw [sdg_miss hsb, HY.out]
                    clear hS hsb
                    go_wp2_with fail
                    go_region_held3 (fun w' => w'.cell? ⟨w.heap.size, 0, none⟩ = some (.slice a n cap) ∧ w'.cell? ⟨w.heap.size, 1, none⟩ = some (.int .i64 m))
                      (first | go_keep | exact ⟨k0, k1⟩ | exact ⟨l0, l1⟩)
                      (first
                      | (go_at_call 37; (with_reducible refine (slPut_any s q k _ (by omega) HQS.out (by omega)).mono ?_); rintro e w3 ⟨rfl, b3⟩; have B3 : Below wo.heap.size wo w3 := chain (w := wo) (by go_grown) b3; obtain ⟨k0, k1, kz⟩ := keep2 ez e0 e1 B3)
                      | (go_at_call 36; (with_reducible refine (HSS.out _ (HVo.out.below B3)).mono ?_); rintro e w4 ⟨rfl, b4⟩; have B4 : Below wo.heap.size wo w4 := chain B3 b4; obtain ⟨l0, l1, lz⟩ := keep2 ez e0 e1 B4))
                    all_goals
                      have HI4 := Lib.hid (HI.out.below B4)
                      have hb4 : Below w2.heap.size w2 w4 := chain HBo.out B4
                      have h4z := hb4.size
                      clear e0 e1 ez k0 k1 kz b3 B3 b4 B4 l0 l1 lz hb HI
                      go_wp2
                      go_roundw
                      case rel => exact ⟨k + 1, ys, by omega, by go_num, HY2, HI4.out, hb4⟩
                      case measure => simp [intOf]; omega
                · have HE : Hid (fuL xs m s.data.toList = ys) := by show _ = _; rw [HZ.out, HY.out]; congr 1; omega
                  go_wp2
                  go_ret2
                  exact ⟨⟨_, ret_ub HO.out, by rw [HE.out]; exact HI.out.mono HB2.out.size⟩, chain HB2.out hb⟩
end Go.Proofs.YtleifibbdjplbaaDoor
