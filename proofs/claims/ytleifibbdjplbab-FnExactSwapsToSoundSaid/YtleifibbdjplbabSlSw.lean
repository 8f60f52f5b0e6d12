/-
  The law of SwapsToSound.
-/
import Derived.Test.YtleifibbdjplbabSlSwp
import Derived.Test.YtleifibbdjplbabApp
import Derived.Test.YtleifibbdjplbabSlLawI
import Derived.Test.YtleifibbdjplbabSlMark
namespace Go.Proofs.Ytleifibbdjplbab
open Go.RowKit

/-- The places among the first k at which a swap makes a number sound. -/
def swk (xs : List Int) (m : Int) (t : List UInt8) : Nat → List Int
  | 0 => []
  | k + 1 => swk xs m t k ++ (if sndB xs m (swL t k) = true then [(k : Int)] else [])
theorem swk_len (xs : List Int) (m : Int) (t : List UInt8) (k : Nat) : (swk xs m t k).length ≤ k := by
  induction k with
  | zero => simp [swk]
  | succ k ih => rw [swk]; split <;> simp <;> omega
theorem swk_hit {xs : List Int} {m : Int} {t : List UInt8} {k : Nat} (h : sndB xs m (swL t k) = true) : swk xs m t (k + 1) = swk xs m t k ++ [(k : Int)] := by rw [swk, if_pos h]
theorem swk_miss {xs : List Int} {m : Int} {t : List UInt8} {k : Nat} (h : sndB xs m (swL t k) = false) : swk xs m t (k + 1) = swk xs m t k := by rw [swk, if_neg (by simp [h]), List.append_nil]
/-- What SwapsToSound answers. -/
def swA (xs : List Int) (m : Int) (t : List UInt8) : List Int := if numB xs m t = true ∧ sndB xs m t = false then swk xs m t (t.length - 1) else []
theorem swA_len (xs : List Int) (m : Int) (t : List UInt8) : (swA xs m t).length ≤ 2000000 ∨ 2000000 < t.length := by
  unfold swA
  have := swk_len xs m t (t.length - 1)
  split
  · omega
  · simp
theorem swA_12 (xs : List Int) (m : Int) (t : List UInt8) : (swA xs m t).length ≤ 2000000 := by
  unfold swA
  have := swk_len xs m t (t.length - 1)
  split
  · rename_i h
    have h1 := (numB_iff _ _ _).1 h.1
    have := h1.1.2.len
    have := h1.2.1
    omega
  · simp
def swB (xs : List Int) (m : Int) (t : List UInt8) : Bool := numB xs m t
set_option maxHeartbeats 4000000 in
theorem iSw_any (xs : List Int) (m : Int) (s : ByteArray) (v : Value) (w : World) (hn : xs.length ≤ 1048576) (hs : s.size ≤ maxLen) (h : RdI xs v w) :
    Calls Try.prog 11 #[.agg #[v, .int .i64 m], .string s] w fun e w' => (∃ u, e = .returned (.tuple #[u, .bool (numB xs m s.data.toList)]) ∧ Ints w.heap.size (swA xs m s.data.toList) u w') ∧ Below w.heap.size w w' := by
  have HV := Lib.hid h
  have HN := Lib.hid (fun W hr => isNum_any xs m s v W hn hs hr)
  clear h
  cases hb : numB xs m s.data.toList with
  | false =>
    have HZ : Hid (swA xs m s.data.toList = []) := by show _ = _; unfold swA; rw [if_neg (by simp [hb])]
    rw [hb] at HN
    go_enter Try.func11, Try.ntmps11
    go_wp2_with (go_at_call 30; (with_reducible refine (HN.out _ (HV.out.below (by go_grown))).mono ?_); rintro e w1 ⟨rfl, b1⟩)
    go_ret2
    exact ⟨⟨_, rfl, by rw [HZ.out]; exact World.ownsRow_nil _ _ _ _⟩, chain (w := w) (by go_grown) b1⟩
  | true =>
    obtain ⟨⟨h2, ho⟩, hl, hd⟩ := (numB_iff _ _ _).1 hb
    have hsl : s.size = xs.length := by simpa using hl
    have hs12 : s.size ≤ 12 := by have := ho.len; omega
    have hs2 : 2 ≤ s.size := by omega
    have HS := Lib.hid (fun W hr => iSound_any xs m s v W ho hsl hd hr)
    have HSK : Hid (∀ k W, k + 1 < s.size → RdI xs v W → Calls Try.prog 31 #[.agg #[v, .int .i64 m], .string (swS s k)] W fun e w' => e = .returned (.bool (sndB xs m (swL s.data.toList k))) ∧ Below W.heap.size W w') := fun k W hk hr => by
      have := iSound_any xs m (swS s k) v W ho (by rw [swS_size s k hk, hsl]) (by rw [swS_list s k hk]; exact swL_dig _ _ hd) hr
      rw [swS_list s k hk] at this
      exact this
    rw [hb] at HN
    cases hsd : sndB xs m s.data.toList with
    | true =>
      have HZ : Hid (swA xs m s.data.toList = []) := by show _ = _; unfold swA; rw [if_neg (by simp [hsd])]
      rw [hsd] at HS
      clear hb hsd ho hl hd hsl
      go_enter Try.func11, Try.ntmps11
      go_wp2_with (first | (go_at_call 30; (with_reducible refine (HN.out _ (HV.out.below (by go_grown))).mono ?_); rintro e w1 ⟨rfl, b1⟩; have B1 : Below w.heap.size w w1 := chain (w := w) (by go_grown) b1; obtain ⟨c0, c1, hz⟩ := box2_kept b1) | (go_at_call 31; (with_reducible refine (HS.out _ (HV.out.below B1)).mono ?_); rintro e w2 ⟨rfl, b2⟩))
      go_ret2
      exact ⟨⟨_, rfl, by rw [HZ.out]; exact World.ownsRow_nil _ _ _ _⟩, chain B1 b2⟩
    | false =>
      have HZ : Hid (swA xs m s.data.toList = swk xs m s.data.toList (s.size - 1)) := by show _ = _; unfold swA; rw [if_pos ⟨hb, hsd⟩, hl, hsl]
      rw [hsd] at HS
      clear hb hsd ho hl hd hsl
      go_enter Try.func11, Try.ntmps11
      go_wp2_with (first | (go_at_call 30; (with_reducible refine (HN.out _ (HV.out.below (by go_grown))).mono ?_); rintro e w1 ⟨rfl, b1⟩; have B1 : Below w.heap.size w w1 := chain (w := w) (by go_grown) b1; obtain ⟨c0, c1, hz⟩ := box2_kept b1) | (go_at_call 31; (with_reducible refine (HS.out _ (HV.out.below B1)).mono ?_); rintro e w2 ⟨rfl, b2⟩; have B2 := chain B1 b2; obtain ⟨d0, d1, dz⟩ := keep2 hz c0 c1 b2))
      have HB2 := Lib.hid B2
      clear B1 B2 b1 b2 c0 c1 hz
      go_loopw [6, 18] (fun vv iv wr => ∃ (k : Nat) (ys : List Int), k ≤ s.size - 1 ∧ iv = .int .i64 k ∧ Hid (ys = swk xs m s.data.toList k) ∧ Hid (Ints w2.heap.size ys vv wr) ∧ Below w2.heap.size w2 wr) (fun _ iv _ => s.size - (intOf iv).toNat)
      case atStart => exact ⟨0, [], Nat.zero_le _, rfl, rfl, World.ownsRow_nil _ _ _ _, Below.refl _ _⟩
      case round =>
        obtain ⟨k, ys, hk, rfl, HY, HI, hb⟩ := hrel
        obtain ⟨wo, rfl⟩ : ∃ wo : World, wo = wr := ⟨_, rfl⟩
        by_cases hlt : k < s.size - 1
        · have hk1 : k + 1 < s.size := by omega
          have hki : (k : Int) < (s.size : Int) - 1 := by omega
          obtain ⟨e0, e1, ez⟩ := keep2 dz d0 d1 hb
          have hyl : ys.length ≤ 12 := by rw [HY.out]; have := swk_len xs m s.data.toList k; omega
          have hS := fun W hr => HSK.out k W hk1 hr
          have hwz := hb.size
          have HBo := Lib.hid hb
          have HVo : Hid (RdI xs v wo) := HV.out.below (chain HB2.out hb)
          cases hsb : sndB xs m (swL s.data.toList k) with
          | true =>
            rw [hsb] at hS
            have HSS := Lib.hid hS
            have HY2 : Hid (ys ++ [(k : Int)] = swk xs m s.data.toList (k + 1)) := by show _ = _; rw [swk_hit hsb, HY.out]
            clear hS hsb
            go_wp2_with fail
            go_region_held3 (fun w' => w'.cell? ⟨w.heap.size, 0, none⟩ = some v ∧ w'.cell? ⟨w.heap.size, 1, none⟩ = some (.int .i64 m))
              (first | go_keep | exact ⟨k0, k1⟩ | exact ⟨l0, l1⟩)
              (first
              | (go_at_call 32; (with_reducible refine (withSwap_any s k _ (by omega) hk1).mono ?_); rintro e w3 ⟨rfl, b3⟩; have B3 : Below wo.heap.size wo w3 := chain (w := wo) (by go_grown) b3; obtain ⟨k0, k1, kz⟩ := keep2 ez e0 e1 B3)
              | (go_at_call 31; (with_reducible refine (HSS.out _ (HVo.out.below B3)).mono ?_); rintro e w4 ⟨rfl, b4⟩; have B4 : Below wo.heap.size wo w4 := chain B3 b4; obtain ⟨l0, l1, lz⟩ := keep2 ez e0 e1 B4))
            have HI4 := Lib.hid (HI.out.below B4)
            have hb4 : Below w2.heap.size w2 w4 := chain HBo.out B4
            have h4z := hb4.size
            clear e0 e1 ez k0 k1 kz b3 B3 b4 B4 l0 l1 lz hb HI
            go_wp2_with (at_builtin; refine wpList_append_int _ rfl _ _ rfl w2.heap.size ys _ rfl (HI4.out.alloc _) w4.heap.size (k : Int) rfl (by simp) (by omega) (by rw [World.size_alloc]; omega) ?_; intro v' w5 hI5 hg5 _)
            go_roundw
            case rel => exact ⟨k + 1, _, by omega, by go_num, HY2, hI5, (hb4.alloc h4z _).trans hg5⟩
            case measure => simp [intOf]; omega
          | false =>
            rw [hsb] at hS
            have HSS := Lib.hid hS
            have HY2 : Hid (ys = swk xs m s.data.toList (k + 1)) := by show _ = _; rw [swk_miss hsb, HY.out]
            clear hS hsb
            go_wp2_with fail
            go_region_held3 (fun w' => w'.cell? ⟨w.heap.size, 0, none⟩ = some v ∧ w'.cell? ⟨w.heap.size, 1, none⟩ = some (.int .i64 m))
              (first | go_keep | exact ⟨k0, k1⟩ | exact ⟨l0, l1⟩)
              (first
              | (go_at_call 32; (with_reducible refine (withSwap_any s k _ (by omega) hk1).mono ?_); rintro e w3 ⟨rfl, b3⟩; have B3 : Below wo.heap.size wo w3 := chain (w := wo) (by go_grown) b3; obtain ⟨k0, k1, kz⟩ := keep2 ez e0 e1 B3)
              | (go_at_call 31; (with_reducible refine (HSS.out _ (HVo.out.below B3)).mono ?_); rintro e w4 ⟨rfl, b4⟩; have B4 : Below wo.heap.size wo w4 := chain B3 b4; obtain ⟨l0, l1, lz⟩ := keep2 ez e0 e1 B4))
            have HI4 := Lib.hid (HI.out.below B4)
            have hb4 : Below w2.heap.size w2 w4 := chain HBo.out B4
            have h4z := hb4.size
            clear e0 e1 ez k0 k1 kz b3 B3 b4 B4 l0 l1 lz hb HI
            go_wp2
            go_roundw
            case rel => exact ⟨k + 1, ys, by omega, by go_num, HY2, HI4, hb4⟩
            case measure => simp [intOf]; omega
        · have HE : Hid (swA xs m s.data.toList = ys) := by show _ = _; rw [HZ.out, HY.out]; congr 1; omega
          go_wp2
          go_ret2
          exact ⟨⟨_, rfl, by rw [HE.out]; exact HI.out.mono HB2.out.size⟩, chain HB2.out hb⟩
set_option maxHeartbeats 4000000 in
theorem sSw_any (xs : List Int) (m : Int) (s : ByteArray) (v : Value) (w : World) (hn : xs.length ≤ 1048576) (hs : s.size ≤ maxLen) (h : RdI xs v w) :
    Calls Try.prog 9 #[.agg #[v, .int .i64 m], .string s] w fun e w' => (∃ u, e = .returned (.tuple #[u, .bool (numB xs m s.data.toList)]) ∧ Ints w.heap.size (swA xs m s.data.toList) u w') ∧ Below w.heap.size w w' := by
  have HV := Lib.hid h
  have HN := Lib.hid (fun W hr => slBoth_any xs m s v W hn hs hr)
  clear h
  cases hb : numB xs m s.data.toList with
  | false =>
    have HZ : Hid (swA xs m s.data.toList = []) := by show _ = _; unfold swA; rw [if_neg (by simp [hb])]
    rw [hb] at HN
    go_enter Try.func9, Try.ntmps9
    go_wp2_with (go_at_call 26; (with_reducible refine (HN.out _ (HV.out.below (by go_grown))).mono ?_); rintro e w1 ⟨rfl, b1⟩)
    go_ret2
    exact ⟨⟨_, rfl, by rw [HZ.out]; exact World.ownsRow_nil _ _ _ _⟩, chain (w := w) (by go_grown) b1⟩
  | true =>
    obtain ⟨⟨h2, ho⟩, hl, hd⟩ := (numB_iff _ _ _).1 hb
    have hsl : s.size = xs.length := by simpa using hl
    have hs12 : s.size ≤ 12 := by have := ho.len; omega
    have hs2 : 2 ≤ s.size := by omega
    have HS := Lib.hid (fun W hr => slSound_any xs m s v W ho hsl hd hr)
    have HSK : Hid (∀ k W, k + 1 < s.size → RdI xs v W → Calls Try.prog 27 #[.agg #[v, .int .i64 m], .string (swS s k)] W fun e w' => e = .returned (.bool (sndB xs m (swL s.data.toList k))) ∧ Below W.heap.size W w') := fun k W hk hr => by
      have := slSound_any xs m (swS s k) v W ho (by rw [swS_size s k hk, hsl]) (by rw [swS_list s k hk]; exact swL_dig _ _ hd) hr
      rw [swS_list s k hk] at this
      exact this
    rw [hb] at HN
    cases hsd : sndB xs m s.data.toList with
    | true =>
      have HZ : Hid (swA xs m s.data.toList = []) := by show _ = _; unfold swA; rw [if_neg (by simp [hsd])]
      rw [hsd] at HS
      clear hb hsd ho hl hd hsl
      go_enter Try.func9, Try.ntmps9
      go_wp2_with (first | (go_at_call 26; (with_reducible refine (HN.out _ (HV.out.below (by go_grown))).mono ?_); rintro e w1 ⟨rfl, b1⟩; have B1 : Below w.heap.size w w1 := chain (w := w) (by go_grown) b1; obtain ⟨c0, c1, hz⟩ := box2_kept b1))
      have HB1 := Lib.hid B1
      have hs2i : (1 : Int) < (s.size : Int) := by omega
      go_loopw [6, 7] (fun vv iv wr => vv = .slice none 0 0 ∧ iv = .int .i64 0 ∧ wr = w1) (fun _ _ _ => 0)
      case atStart => exact ⟨rfl, rfl, rfl⟩
      case round =>
        obtain ⟨rfl, rfl, rfl⟩ := hrel
        go_wp2_with (go_at_call 27; (with_reducible refine (HS.out _ (HV.out.below HB1.out)).mono ?_); rintro e w2 ⟨rfl, b2⟩)
        go_ret2
        exact ⟨⟨_, rfl, by rw [HZ.out]; exact World.ownsRow_nil _ _ _ _⟩, chain HB1.out b2⟩
    | false =>
      have HZ : Hid (swA xs m s.data.toList = swk xs m s.data.toList (s.size - 1)) := by show _ = _; unfold swA; rw [if_pos ⟨hb, hsd⟩, hl, hsl]
      have HSAME : Hid (∀ k, k + 1 < s.size → (hk : k < s.size) → (hk1 : k + 1 < s.size) → s[k] = s[k + 1] → sndB xs m (swL s.data.toList k) = false) := fun k h1 hk hk1 he => by
        rw [swL_same _ _ (by simpa using hk1) ?_]
        · exact hsd
        · rw [List.getD_eq_getElem?_getD, List.getD_eq_getElem?_getD, List.getElem?_eq_getElem (by simpa using hk), List.getElem?_eq_getElem (by simpa using hk1)]
          exact he
      rw [hsd] at HS
      clear hb hsd ho hl hd hsl
      go_enter Try.func9, Try.ntmps9
      go_wp2_with (first | (go_at_call 26; (with_reducible refine (HN.out _ (HV.out.below (by go_grown))).mono ?_); rintro e w1 ⟨rfl, b1⟩; have B1 : Below w.heap.size w w1 := chain (w := w) (by go_grown) b1; obtain ⟨c0, c1, hz⟩ := box2_kept b1))
      have HB1 := Lib.hid B1
      clear B1 b1
      go_loopw [6, 7] (fun vv iv wr => ∃ (k : Nat) (ys : List Int), k ≤ s.size - 1 ∧ iv = .int .i64 k ∧ Hid (ys = swk xs m s.data.toList k) ∧ Hid (Ints w1.heap.size ys vv wr) ∧ Below w1.heap.size w1 wr) (fun _ iv _ => s.size - (intOf iv).toNat)
      case atStart => exact ⟨0, [], Nat.zero_le _, rfl, rfl, World.ownsRow_nil _ _ _ _, Below.refl _ _⟩
      case round =>
        obtain ⟨k, ys, hk, rfl, HY, HI, hb⟩ := hrel
        obtain ⟨wo, rfl⟩ : ∃ wo : World, wo = wr := ⟨_, rfl⟩
        have HBo := Lib.hid hb
        by_cases hlt : k < s.size - 1
        · have hk1 : k + 1 < s.size := by omega
          have hk0 : k < s.size := by omega
          have hki : (k : Int) + 1 < (s.size : Int) := by omega
          have hki0 : (k : Int) < (s.size : Int) := by omega
          have hkn : (0 : Int) ≤ (k : Int) := by omega
          have hkn1 : (0 : Int) ≤ (k : Int) + 1 := by omega
          have hkt : ((k : Int) + 1).toNat = k + 1 := by omega
          obtain ⟨e0, e1, ez⟩ := keep2 hz c0 c1 hb
          have hyl : ys.length ≤ 12 := by rw [HY.out]; have := swk_len xs m s.data.toList k; omega
          have HVo : Hid (RdI xs v wo) := HV.out.below (chain HB1.out hb)
          go_wp2_with (go_at_call 27; (with_reducible refine (HS.out _ HVo.out).mono ?_); rintro e w3 ⟨rfl, b3⟩; obtain ⟨f0, f1, fz⟩ := keep2 ez e0 e1 b3; have HV3 := Lib.hid (HVo.out.below b3); have HI3 := Lib.hid (HI.out.below b3); have HB3 := Lib.hid (chain HBo.out b3))
          clear e0 e1 ez b3 HI HVo hb
          obtain ⟨kk, hkk⟩ : ∃ kk, kk = k + 1 := ⟨_, rfl⟩
          have hkl : kk < s.size := by omega
          have hwr : IntKind.i64.wrap ((k : Int) + 1) = (kk : Int) := by rw [show (k : Int) + 1 = (kk : Int) by omega]; exact IntWalk.i64_in _ (by omega)
          have hsum : (k : Int) + 1 = (kk : Int) := by omega
          have hwk : IntKind.i64.wrap (kk : Int) = (kk : Int) := IntWalk.i64_in _ (by omega)
          have hi3 : (0 : Int) ≤ (kk : Int) := by omega
          have hi4 : (kk : Int) < (s.size : Int) := by omega
          have HKE : Hid (s[k + 1] = s[kk]) := by show _ = _; simp only [hkk]
          have HKK := Lib.hid hkk
          clear hki hkn1 hkt hkk
          by_cases hne : (s[k].toNat : Int) = (s[kk].toNat : Int)
          · have HY2 : Hid (ys = swk xs m s.data.toList (k + 1)) := by show _ = _; rw [swk_miss (HSAME.out k hk1 hk0 hk1 (by rw [HKE.out]; exact UInt8.toNat_inj.1 (by omega))), HY.out]
            have hq : ((s[k].toNat : Int) != (s[kk].toNat : Int)) = false := by rw [hne]; simp
            clear hne
            go_quiet (fail)
            go_wp2
            go_roundw
            case rel => exact ⟨k + 1, ys, by omega, by go_num, HY2, HI3.out.drewN _, below_drewN HB3.out _⟩
            case measure => simp [intOf]; omega
          · have hq : ((s[k].toNat : Int) != (s[kk].toNat : Int)) = true := by simpa using hne
            have hq2 : ((s[k].toNat : Int) == (s[kk].toNat : Int)) = false := beq_false_of_ne hne
            have hq3 : decide ((s[k].toNat : Int) = (s[kk].toNat : Int)) = false := decide_eq_false hne
            have hS := fun W hr => HSK.out k W hk1 hr
            cases hsb : sndB xs m (swL s.data.toList k) with
            | true =>
              rw [hsb] at hS
              have HSS := Lib.hid hS
              have HY2 : Hid (ys ++ [(k : Int)] = swk xs m s.data.toList (k + 1)) := by show _ = _; rw [swk_hit hsb, HY.out]
              clear hS hsb
              go_region_held3 (fun w' => w'.cell? ⟨w.heap.size, 0, none⟩ = some v ∧ w'.cell? ⟨w.heap.size, 1, none⟩ = some (.int .i64 m))
                (first | go_keep | exact ⟨k0, k1⟩ | exact ⟨l0, l1⟩)
                (first
                | (go_at_call 28; (with_reducible refine (slSwap_any s k _ (by omega) hk1).mono ?_); rintro e w5 ⟨rfl, b5⟩; have B5 : Below w3.heap.size w3 w5 := chain (w := w3) (by go_grown) b5; obtain ⟨k0, k1, kz⟩ := keep2 fz f0 f1 B5)
                | (go_at_call 27; (with_reducible refine (HSS.out _ (HV3.out.below B5)).mono ?_); rintro e w6 ⟨rfl, b6⟩; have B6 : Below w3.heap.size w3 w6 := chain B5 b6; obtain ⟨l0, l1, lz⟩ := keep2 fz f0 f1 B6))
              all_goals
                have HI4 := Lib.hid (HI3.out.below B6)
                have hb4 : Below w1.heap.size w1 w6 := chain HB3.out B6
                have h4z := hb4.size
                clear f0 f1 fz k0 k1 kz b5 B5 b6 B6 l0 l1 lz
                go_wp2_with (at_builtin; refine wpList_append_int _ rfl _ _ rfl w1.heap.size ys _ rfl (HI4.out.alloc _) w6.heap.size (k : Int) rfl (by simp) (by omega) (by rw [World.size_alloc]; omega) ?_; intro v' w7 hI5 hg5 _)
                go_roundw
                case rel => exact ⟨k + 1, _, by omega, by go_num, HY2, hI5, (hb4.alloc h4z _).trans hg5⟩
                case measure => simp [intOf]; omega
            | false =>
              rw [hsb] at hS
              have HSS := Lib.hid hS
              have HY2 : Hid (ys = swk xs m s.data.toList (k + 1)) := by show _ = _; rw [swk_miss hsb, HY.out]
              clear hS hsb
              go_region_held3 (fun w' => w'.cell? ⟨w.heap.size, 0, none⟩ = some v ∧ w'.cell? ⟨w.heap.size, 1, none⟩ = some (.int .i64 m))
                (first | go_keep | exact ⟨k0, k1⟩ | exact ⟨l0, l1⟩)
                (first
                | (go_at_call 28; (with_reducible refine (slSwap_any s k _ (by omega) hk1).mono ?_); rintro e w5 ⟨rfl, b5⟩; have B5 : Below w3.heap.size w3 w5 := chain (w := w3) (by go_grown) b5; obtain ⟨k0, k1, kz⟩ := keep2 fz f0 f1 B5)
                | (go_at_call 27; (with_reducible refine (HSS.out _ (HV3.out.below B5)).mono ?_); rintro e w6 ⟨rfl, b6⟩; have B6 : Below w3.heap.size w3 w6 := chain B5 b6; obtain ⟨l0, l1, lz⟩ := keep2 fz f0 f1 B6))
              all_goals
                have HI4 := Lib.hid (HI3.out.below B6)
                have hb4 : Below w1.heap.size w1 w6 := chain HB3.out B6
                have h4z := hb4.size
                clear f0 f1 fz k0 k1 kz b5 B5 b6 B6 l0 l1 lz
                go_wp2
                go_roundw
                case rel => exact ⟨k + 1, ys, by omega, by go_num, HY2, HI4, hb4⟩
                case measure => simp [intOf]; omega
        · have HE : Hid (swA xs m s.data.toList = ys) := by show _ = _; rw [HZ.out, HY.out]; congr 1; omega
          have hki : ¬ (k : Int) + 1 < (s.size : Int) := by omega
          go_wp2
          go_ret2
          exact ⟨⟨_, rfl, by rw [HE.out]; exact HI.out.mono HB1.out.size⟩, chain HB1.out hb⟩
set_option maxRecDepth 100000 in
set_option maxHeartbeats 8000000 in
theorem FnExactSwapsToSound_law (xs : List Int) (m : Int) (v : Value) (hn : xs.length ≤ maxLen) (_hm : (Lit.int .i64 m).wf = true) (s : ByteArray) (hs : s.size ≤ maxLen) (w : World) (h : RdI xs v w) :
    Calls Try.prog 3 #[.agg #[v, .int .i64 m], .string s] w fun e w' => e = .returned (.bool true) ∧ Below w.heap.size w w' := by
  have hnm := hn
  unfold maxLen at hn
  have HV := Lib.hid h
  have hs1 : xs.length ≤ 1048576 → ∀ u W, RdI xs u W → Calls Try.prog 9 #[.agg #[u, .int .i64 m], .string s] W fun e w' => (∃ u, e = .returned (.tuple #[u, .bool (numB xs m s.data.toList)]) ∧ Ints W.heap.size (swA xs m s.data.toList) u w') ∧ Below W.heap.size W w' := fun hn u W hr => sSw_any xs m s u W hn hs hr
  have hi1 : xs.length ≤ 1048576 → ∀ u W, RdI xs u W → Calls Try.prog 11 #[.agg #[u, .int .i64 m], .string s] W fun e w' => (∃ u, e = .returned (.tuple #[u, .bool (numB xs m s.data.toList)]) ∧ Ints W.heap.size (swA xs m s.data.toList) u w') ∧ Below W.heap.size W w' := fun hn u W hr => iSw_any xs m s u W hn hs hr
  have hyl : (swA xs m s.data.toList).length ≤ 2000000 := swA_12 _ _ _
  obtain ⟨ys, hys⟩ : ∃ ys : List Int, ys = swA xs m s.data.toList := ⟨_, rfl⟩
  obtain ⟨rb, hrb⟩ : ∃ rb : Bool, rb = (numB xs m s.data.toList) := ⟨_, rfl⟩
  rw [← hys, ← hrb] at hs1 hi1
  rw [← hys] at hyl
  have HS := Lib.hid hs1
  have HI := Lib.hid hi1
  clear h hs1 hi1 hys hrb
  have hs' := hs
  unfold maxLen at hs'
  by_cases hbs : (s.size : Int) ≤ 1048576
  case neg =>
    go_enter Try.func3, Try.ntmps3
    go_wp2
    go_ret
    exact ⟨rfl, by first | exact Below.refl _ _ | exact (Below.refl _ _).alloc (Nat.le_refl _) _⟩
  go_enter Try.func3, Try.ntmps3
  go_wp2_with (go_at_call 8; go_must ((with_reducible refine (szCheck_any xs m v _ hnm (HV.out.below (by go_grown))).mono ?_); rintro e w1 ⟨⟨r, rfl, hr⟩, b1⟩; obtain ⟨c0, c1, hz⟩ := box2_kept b1; by_cases hr0 : r < 0))
  all_goals go_wp2_with fail
  · go_ret
    exact ⟨rfl, chain (w := w) (by go_grown) b1⟩
  · have hN := hr (by omega)
    have HI' := Lib.hid (HI.out hN)
    have HS' := Lib.hid (HS.out hN)
    have B1 : Below w.heap.size w w1 := chain (w := w) (by go_grown) b1
    have A1 := HV.out.below B1
    clear hr b1
    refine (toCheck_any xs m v _ hN A1).mono ?_
    rintro e w2 ⟨⟨g2, rfl, u2⟩, b2⟩
    obtain ⟨d0, d1, dz⟩ := keep2 hz c0 c1 b2
    have B2 := chain B1 b2
    go_wp2_with fail
    refine (HS'.out _ _ u2.rd).mono ?_
    rintro e w3 ⟨⟨v0, rfl, i3⟩, b3⟩
    have i3' := i3
    obtain ⟨e0, e1, ez⟩ := keep2 dz d0 d1 b3
    have B3 := chain B2 b3
    have A3 := HV.out.below B3
    clear c0 c1 d0 d1 u2
    go_wp2_with fail
    refine (toCheck_any xs m v _ hN A3).mono ?_
    rintro e w4 ⟨⟨g4, rfl, u4⟩, b4⟩
    obtain ⟨f0, f1, fz⟩ := keep2 ez e0 e1 b4
    have B4 := chain B3 b4
    have u5 := u4.alloc (.cells #[.slice (some ⟨g4, 0, none⟩) xs.length xs.length, .int .i64 m] 28)
    have i5 := (i3.below b4).alloc (.cells #[.slice (some ⟨g4, 0, none⟩) xs.length xs.length, .int .i64 m] 28)
    have B5 : Below w.heap.size w (w4.alloc (.cells #[.slice (some ⟨g4, 0, none⟩) xs.length xs.length, .int .i64 m] 28)) := B4.alloc B4.size _
    have hg4 := u4.baseLe
    go_wp2_with fail
    refine (HI'.out _ _ u5.rd).mono ?_
    rintro e w6 ⟨⟨g0, rfl, j6⟩, b6⟩
    obtain ⟨x0, x1, xz⟩ := box2_kept b6
    obtain ⟨y0, y1, yz⟩ := keep2 fz f0 f1 (chain (w := w4) (by go_grown) b6)
    have B6 := chain B5 b6
    have u6 := u5.below b6
    have i6 := i5.below b6
    clear e0 e1 f0 f1 u5 i5 i3
    go_wp2_with fail
    refine (eqInts_yes _ _ ys _ _ _ (by omega) j6 i6).mono ?_
    rintro e w7 ⟨rfl, q7, rfl⟩
    have B7 : Below w6.heap.size w6 (w6.drewN q7) := below_drewN (Below.refl _ _) q7
    have A7 := HV.out.below (chain B6 B7)
    go_wp2_with fail
    obtain ⟨w7, hw7⟩ : ∃ w7, w7 = w6.drewN q7 := ⟨_, rfl⟩
    rw [← hw7] at B7 A7 ⊢
    clear hw7
    obtain ⟨p0, p1, pz⟩ := keep2 xz x0 x1 B7
    obtain ⟨o0, o1, oz⟩ := keep2 yz y0 y1 B7
    go_region_with (first
      | (go_at_call 10; (with_reducible refine (toCheck_any xs m v _ hN (A7.below (by go_grown))).mono ?_); rintro e w8 ⟨⟨g8, rfl, u8⟩, b8⟩; have B8 : Below w6.heap.size w6 w8 := chain B7 (chain (w := w7) (by go_grown) b8); obtain ⟨z0, z1, zz⟩ := keep2 xz x0 x1 B8)
      | (go_at_call 13; (with_reducible refine (eqCheck_yes m _ _ xs _ _ _ hN (u6.below B8) u8).mono ?_); rintro e w9 ⟨rfl, b9⟩; have B9 : Below w6.heap.size w6 w9 := chain B8 b9))
    all_goals
      obtain ⟨z0, z1, zz⟩ := keep2 xz x0 x1 B9
      obtain ⟨k0, k1, kz⟩ := keep2 yz y0 y1 B9
      have B10 := chain B6 B9
      have hne : w4.heap.size ≠ g4 := by have := hg4.2; omega
      have hne2 : w.heap.size ≠ g4 := by have := hg4.1; have := B3.size; omega
      have hgl : g4 < (w4.alloc (.cells #[.slice (some ⟨g4, 0, none⟩) xs.length xs.length, .int .i64 m] 28)).heap.size := by rw [World.size_alloc]; have := hg4.2; omega
      have hgw : w.heap.size ≤ g4 := by have := hg4.1; have := B3.size; omega
      have hw4 : g4 < w4.heap.size := hg4.2
      go_wp2_with fail
      refine (markCheck_any m g4 xs.length xs.length xs _ rfl hN (u6.below B9).self).mono ?_
      rintro e wa ⟨rfl, _, m10⟩
      have Ba := m10.below B10 hgw B10.size
      have ja := m10.ints (j6.below B9) hgl
      have ia : Ints w2.heap.size ys v0 wa := by
        have h1 := (i6.below B9)
        refine ⟨h1.1, ?_⟩
        rcases h1.2 with h0 | ⟨g', cap', cur, hv, hb, hg, r⟩
        · exact .inl h0
        · refine .inr ⟨g', cap', cur, hv, hb, ?_, r⟩
          have hlt3 : g' < w3.heap.size := by
            rcases i3'.2 with h0 | ⟨g'', cap'', cur'', hv'', _, hg'', _⟩
            · rw [hv] at h0; cases h0.1
            · rw [hv] at hv''; cases hv''; exact (Array.getElem?_eq_some_iff.1 hg'').1
          rw [m10.block g' (Array.getElem?_eq_some_iff.1 hg).1 (fun e => by cases e; have := hg4.1; omega)]
          exact hg
      obtain ⟨l0, l1, lz⟩ := keep2B kz hne2 k0 k1 m10
      have hkn : ¬ (1 : Int) + (xs.length : Int) < 0 := by omega
      go_wp2_with fail
      refine (eqInts_yes _ _ ys _ _ _ (by omega) ja ia).mono ?_
      rintro e wb ⟨rfl, qb, rfl⟩
      go_wp2_with fail
      refine (mark_any _ ys g0 1 _ (by omega) (by omega) (ja.drewN qb)).mono ?_
      rintro e wc ⟨rfl, mc, bc⟩
      have hmx : w.heap.size ≤ (w4.alloc (.cells #[.slice (some ⟨g4, 0, none⟩) xs.length xs.length, .int .i64 m] 28)).heap.size := B5.size
      have Bc : Below w.heap.size w wc := (below_drewN Ba qb).trans (bc.mono hmx)
      have hcz : w.heap.size < (w4.alloc (.cells #[.slice (some ⟨g4, 0, none⟩) xs.length xs.length, .int .i64 m] 28)).heap.size := by rw [World.size_alloc]; omega
      have n0 := (bc.cell (p := ⟨w.heap.size, 0, none⟩) hcz).trans l0
      have n1 := (bc.cell (p := ⟨w.heap.size, 1, none⟩) hcz).trans l1
      have nz : w.heap.size < wc.heap.size := by have h9 := bc.size; have h8 : (wa.drewN qb).heap.size = wa.heap.size := rfl; omega
      have ic : Ints w2.heap.size ys v0 wc := (ia.drewN qb).apart (.inr (fun k hk => by have h7 := i3'.own_lt k hk; have h6 := b4.size; rw [World.size_alloc]; omega)) bc
      go_wp2_with fail
      refine (held_any _ ys.length g0 1 _ (by omega) (by omega) mc).mono ?_
      rintro e wd ⟨rfl, rfl⟩
      have hkm : ¬ (1 : Int) + (ys.length : Int) < 0 := by omega
      go_wp2_with fail
      refine (toCheck_any xs m v _ hN (HV.out.below Bc)).mono ?_
      rintro e wf ⟨⟨gf, rfl, uf⟩, bf⟩
      have Bf := chain Bc bf
      go_wp2_with fail
      refine (HI'.out _ _ uf.rd).mono ?_
      rintro e wg ⟨⟨h0, rfl, jg⟩, bg⟩
      have Bg := chain Bf bg
      have ig := (ic.below bf).below bg
      have mg := (mc.below bf).below bg
      go_wp2_with fail
      refine (eqInts_yes _ _ ys _ _ _ (by omega) jg ig).mono ?_
      rintro e wh ⟨rfl, qh, rfl⟩
      go_wp2_with fail
      refine (held_any _ ys.length g0 1 _ (by omega) (by omega) (mg.drewN qh)).mono ?_
      rintro e wi ⟨rfl, rfl⟩
      go_wp2_with fail
      go_ret
      exact ⟨rfl, below_drewN Bg qh⟩
end Go.Proofs.Ytleifibbdjplbab
