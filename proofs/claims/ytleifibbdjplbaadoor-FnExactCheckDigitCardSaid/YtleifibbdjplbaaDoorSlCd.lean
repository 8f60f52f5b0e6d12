/-
  The law of CheckDigit.
-/
import Derived.Test.YtleifibbdjplbaaDoorSlSd
namespace Go.Proofs.YtleifibbdjplbaaDoor
open Go.RowKit Go.Conc

theorem sdg_pre (xs : List Int) (m : Int) (t : List UInt8) (p a n : Nat) : ∃ zs, sdg xs m t p (a + n) = sdg xs m t p a ++ zs := by
  induction n with
  | zero => exact ⟨[], by simp⟩
  | succ n ih =>
    obtain ⟨zs, hz⟩ := ih
    rw [show a + (n + 1) = a + n + 1 by omega, sdg, hz, List.append_assoc]
    exact ⟨_, rfl⟩
theorem sdg_first {xs : List Int} {m : Int} {t : List UInt8} {p k : Nat} (h0 : sdg xs m t p k = []) (h : sndB xs m (putD t p k) = true) (hk : k ≤ 9) : ∃ zs, sdg xs m t p 10 = (k : Int) :: zs := by
  obtain ⟨zs, hz⟩ := sdg_pre xs m t p (k + 1) (9 - k)
  rw [show k + 1 + (9 - k) = 10 by omega, sdg_hit h, h0] at hz
  exact ⟨zs, hz⟩
/-- What is asked of a check and a number: which last digits make it sound. -/
def cdL (xs : List Int) (m : Int) (t : List UInt8) : List Int := if numB xs m t = true then sdg xs m t (t.length - 1) 10 else []
def cdA (xs : List Int) (m : Int) (t : List UInt8) : Int := (cdL xs m t).headD 0
def cdB (xs : List Int) (m : Int) (t : List UInt8) : Bool := !(cdL xs m t).isEmpty
set_option maxHeartbeats 2000000 in
theorem iCd_any (xs : List Int) (m : Int) (s : ByteArray) (v : Value) (w : World) (hn : xs.length ≤ 1048576) (hs : s.size ≤ maxLen) (h : RdI xs v w) :
    Calls Tryd.prog 12 #[.agg #[v, .int .i64 m], .string s] w fun e w' => e = .returned (.tuple #[.int .i64 (cdA xs m s.data.toList), .bool (cdB xs m s.data.toList)]) ∧ Below w.heap.size w w' := by
  have HV := Lib.hid h
  have HN := Lib.hid (fun W hr => isNum_any xs m s v W hn hs hr)
  clear h
  cases hb : numB xs m s.data.toList with
  | false =>
    have HZ : Hid (cdL xs m s.data.toList = []) := by show _ = _; unfold cdL; rw [if_neg (by simp [hb])]
    have HZ1 : Hid (0 = cdA xs m s.data.toList) := by show _ = _; unfold cdA; rw [HZ.out]; rfl
    have HZ2 : Hid (false = cdB xs m s.data.toList) := by show _ = _; unfold cdB; rw [HZ.out]; rfl
    rw [hb] at HN
    go_enter Tryd.func12, Tryd.ntmps12
    go_wp2_with (go_at_call 39; (with_reducible refine (HN.out _ (HV.out.below (by go_grown))).mono ?_); rintro e w1 ⟨rfl, b1⟩)
    go_ret2
    exact ⟨ret_ib HZ1.out HZ2.out, chain (w := w) (by go_grown) b1⟩
  | true =>
    obtain ⟨⟨h2, ho⟩, hl, hd⟩ := (numB_iff _ _ _).1 hb
    have hsl : s.size = xs.length := by simpa using hl
    have hs12 : s.size ≤ 12 := by have := ho.len; omega
    obtain ⟨p, hp⟩ : ∃ p, s.size = p + 1 := ⟨s.size - 1, by omega⟩
    have hpl : s.data.toList.length - 1 = p := by rw [hl, ← hsl, hp]; rfl
    have HZ : Hid (cdL xs m s.data.toList = sdg xs m s.data.toList p 10) := by show _ = _; unfold cdL; rw [if_pos hb, hpl]
    have hsd := fun W hr => sound_any xs m s p v W ho hsl (by omega) (fun d hd9 => putD_dig _ _ _ hd9 hd) hr
    rw [← HZ.out] at hsd
    have hsum : (s.size : Int) - 1 = (p : Int) := by omega
    have hwp : IntKind.i64.wrap (p : Int) = (p : Int) := IntWalk.i64_in _ (by omega)
    rw [hb] at HN
    clear hb ho hl hd hsl hpl hp h2 HZ
    cases hL : cdL xs m s.data.toList with
    | nil =>
      have HZ1 : Hid (0 = cdA xs m s.data.toList) := by show _ = _; unfold cdA; rw [hL]; rfl
      have HZ2 : Hid (false = cdB xs m s.data.toList) := by show _ = _; unfold cdB; rw [hL]; rfl
      rw [hL] at hsd
      have HSD := Lib.hid hsd
      clear hsd hL
      go_enter Tryd.func12, Tryd.ntmps12
      go_wp2_with (first
        | (go_at_call 39; (with_reducible refine (HN.out _ (HV.out.below (by go_grown))).mono ?_); rintro e w1 ⟨rfl, b1⟩; have B1 : Below w.heap.size w w1 := chain (w := w) (by go_grown) b1; obtain ⟨c0, c1, hz⟩ := box2_kept b1)
        | (go_at_call 41; (with_reducible refine (HSD.out _ (HV.out.below B1)).mono ?_); rintro e w2 ⟨rfl, hC, b2⟩; have B2 := chain B1 b2; obtain ⟨sn, rn, hcc⟩ := hC)
        | (go_at_call 40; (with_reducible refine (next_nil _ sn rn _ hcc).mono ?_); rintro e w3 ⟨rfl, rfl⟩))
      go_ret2
      exact ⟨ret_ib HZ1.out HZ2.out, B2⟩
    | cons x rest =>
      have HZ1 : Hid (x = cdA xs m s.data.toList) := by show _ = _; unfold cdA; rw [hL]; rfl
      have HZ2 : Hid (true = cdB xs m s.data.toList) := by show _ = _; unfold cdB; rw [hL]; rfl
      rw [hL] at hsd
      have HSD := Lib.hid hsd
      clear hsd hL
      go_enter Tryd.func12, Tryd.ntmps12
      go_wp2_with (first
        | (go_at_call 39; (with_reducible refine (HN.out _ (HV.out.below (by go_grown))).mono ?_); rintro e w1 ⟨rfl, b1⟩; have B1 : Below w.heap.size w w1 := chain (w := w) (by go_grown) b1; obtain ⟨c0, c1, hz⟩ := box2_kept b1)
        | (go_at_call 41; (with_reducible refine (HSD.out _ (HV.out.below B1)).mono ?_); rintro e w2 ⟨rfl, hC, b2⟩; have B2 := chain B1 b2; obtain ⟨sn, rn, hcc⟩ := hC)
        | (go_at_call 40; (with_reducible refine (next_cons _ x rest sn rn _ hcc).mono ?_); rintro e w3 ⟨rfl, rfl⟩))
      go_ret2
      exact ⟨ret_ib HZ1.out HZ2.out, below_setChan B2 (by omega) _ _ _ _ _ _⟩
set_option maxHeartbeats 2000000 in
theorem sCd_any (xs : List Int) (m : Int) (s : ByteArray) (v : Value) (w : World) (hn : xs.length ≤ 1048576) (hs : s.size ≤ maxLen) (h : RdI xs v w) :
    Calls Tryd.prog 10 #[.agg #[v, .int .i64 m], .string s] w fun e w' => e = .returned (.tuple #[.int .i64 (cdA xs m s.data.toList), .bool (cdB xs m s.data.toList)]) ∧ Below w.heap.size w w' := by
  have HV := Lib.hid h
  have HN := Lib.hid (fun W hr => slBoth_any xs m s v W hn hs hr)
  clear h
  cases hb : numB xs m s.data.toList with
  | false =>
    have HZ : Hid (cdL xs m s.data.toList = []) := by show _ = _; unfold cdL; rw [if_neg (by simp [hb])]
    have HZ1 : Hid (0 = cdA xs m s.data.toList) := by show _ = _; unfold cdA; rw [HZ.out]; rfl
    have HZ2 : Hid (false = cdB xs m s.data.toList) := by show _ = _; unfold cdB; rw [HZ.out]; rfl
    rw [hb] at HN
    go_enter Tryd.func10, Tryd.ntmps10
    go_wp2_with (go_at_call 35; (with_reducible refine (HN.out _ (HV.out.below (by go_grown))).mono ?_); rintro e w1 ⟨rfl, b1⟩)
    go_ret2
    exact ⟨ret_ib HZ1.out HZ2.out, chain (w := w) (by go_grown) b1⟩
  | true =>
    obtain ⟨⟨h2, ho⟩, hl, hd⟩ := (numB_iff _ _ _).1 hb
    have hsl : s.size = xs.length := by simpa using hl
    have hs12 : s.size ≤ 12 := by have := ho.len; omega
    obtain ⟨p, hp⟩ : ∃ p, s.size = p + 1 := ⟨s.size - 1, by omega⟩
    have hpl : s.data.toList.length - 1 = p := by rw [hl, ← hsl, hp]; rfl
    have HZ : Hid (cdL xs m s.data.toList = sdg xs m s.data.toList p 10) := by show _ = _; unfold cdL; rw [if_pos hb, hpl]
    have hps : p < s.size := by omega
    have HS : Hid (∀ k W, k ≤ 9 → RdI xs v W → Calls Tryd.prog 36 #[.agg #[v, .int .i64 m], .string (putS s p k)] W fun e w' => e = .returned (.bool (sndB xs m (putD s.data.toList p k))) ∧ Below W.heap.size W w') := fun k W hk hr => by
      have := slSound_any xs m (putS s p k) v W ho (by rw [putS_size s p k hps, hsl]) (by rw [putS_list s p k]; exact putD_dig _ _ _ hk hd) hr
      rw [putS_list s p k] at this
      exact this
    have hsum : (s.size : Int) - 1 = (p : Int) := by omega
    have hwp : IntKind.i64.wrap (p : Int) = (p : Int) := IntWalk.i64_in _ (by omega)
    have hwr : IntKind.i64.wrap ((s.size : Int) - 1) = (p : Int) := by rw [hsum]; exact hwp
    rw [hb] at HN
    have HPS := Lib.hid hps
    clear hb ho hl hd hsl hpl hp h2 hps
    go_enter Tryd.func10, Tryd.ntmps10
    go_wp2_with (go_at_call 35; (with_reducible refine (HN.out _ (HV.out.below (by go_grown))).mono ?_); rintro e w1 ⟨rfl, b1⟩; have B1 : Below w.heap.size w w1 := chain (w := w) (by go_grown) b1; obtain ⟨c0, c1, hz⟩ := box2_kept b1)
    have HB1 := Lib.hid B1
    clear B1 b1
    go_loopw [6] (fun iv wr => ∃ (k : Nat), k ≤ 10 ∧ iv = .int .i64 k ∧ Hid (sdg xs m s.data.toList p k = []) ∧ Below w1.heap.size w1 wr) (fun iv _ => 10 - (intOf iv).toNat)
    case atStart => exact ⟨0, Nat.zero_le _, rfl, rfl, Below.refl _ _⟩
    case round =>
      obtain ⟨k, hk, rfl, HY, hb⟩ := hrel
      obtain ⟨wo, rfl⟩ : ∃ wo : World, wo = wr := ⟨_, rfl⟩
      by_cases hlt : k < 10
      · obtain ⟨e0, e1, ez⟩ := keep2 hz c0 c1 hb
        have HBo := Lib.hid hb
        have HVo : Hid (RdI xs v wo) := HV.out.below (chain HB1.out hb)
        have hS := fun W hr => HS.out k W (by omega) hr
        cases hsb : sndB xs m (putD s.data.toList p k) with
        | true =>
          rw [hsb] at hS
          have HSS := Lib.hid hS
          obtain ⟨zs, hzs⟩ := sdg_first HY.out hsb (by omega)
          have HZ1 : Hid ((k : Int) = cdA xs m s.data.toList) := by show _ = _; unfold cdA; rw [HZ.out, hzs]; rfl
          have HZ2 : Hid (true = cdB xs m s.data.toList) := by show _ = _; unfold cdB; rw [HZ.out, hzs]; rfl
          clear hS hsb hzs
          go_wp2_with fail
          go_region_held3 (fun w' => w'.cell? ⟨w.heap.size, 0, none⟩ = some v ∧ w'.cell? ⟨w.heap.size, 1, none⟩ = some (.int .i64 m))
            (first | go_keep | exact ⟨k0, k1⟩ | exact ⟨l0, l1⟩)
            (first
            | (go_at_call 37; (with_reducible refine (slPut_any s p k _ (by omega) HPS.out (by omega)).mono ?_); rintro e w3 ⟨rfl, b3⟩; have B3 : Below wo.heap.size wo w3 := chain (w := wo) (by go_grown) b3; obtain ⟨k0, k1, kz⟩ := keep2 ez e0 e1 B3)
            | (go_at_call 36; (with_reducible refine (HSS.out _ (HVo.out.below B3)).mono ?_); rintro e w4 ⟨rfl, b4⟩; have B4 : Below wo.heap.size wo w4 := chain B3 b4; obtain ⟨l0, l1, lz⟩ := keep2 ez e0 e1 B4))
          all_goals
            go_wp2
            go_ret2
            exact ⟨ret_ib HZ1.out HZ2.out, chain HB1.out (chain HBo.out B4)⟩
        | false =>
          rw [hsb] at hS
          have HSS := Lib.hid hS
          have HY2 : Hid (sdg xs m s.data.toList p (k + 1) = []) := by show _ = _; rw [sdg_miss hsb]; exact HY.out
          clear hS hsb
          go_wp2_with fail
          go_region_held3 (fun w' => w'.cell? ⟨w.heap.size, 0, none⟩ = some v ∧ w'.cell? ⟨w.heap.size, 1, none⟩ = some (.int .i64 m))
            (first | go_keep | exact ⟨k0, k1⟩ | exact ⟨l0, l1⟩)
            (first
            | (go_at_call 37; (with_reducible refine (slPut_any s p k _ (by omega) HPS.out (by omega)).mono ?_); rintro e w3 ⟨rfl, b3⟩; have B3 : Below wo.heap.size wo w3 := chain (w := wo) (by go_grown) b3; obtain ⟨k0, k1, kz⟩ := keep2 ez e0 e1 B3)
            | (go_at_call 36; (with_reducible refine (HSS.out _ (HVo.out.below B3)).mono ?_); rintro e w4 ⟨rfl, b4⟩; have B4 : Below wo.heap.size wo w4 := chain B3 b4; obtain ⟨l0, l1, lz⟩ := keep2 ez e0 e1 B4))
          all_goals
            go_wp2
            go_roundw
            case rel => exact ⟨k + 1, by omega, by go_num, HY2, chain HBo.out B4⟩
            case measure => simp [intOf]; omega
      · have hk10 : k = 10 := by omega
        subst hk10
        have HZ1 : Hid (0 = cdA xs m s.data.toList) := by show _ = _; unfold cdA; rw [HZ.out, HY.out]; rfl
        have HZ2 : Hid (false = cdB xs m s.data.toList) := by show _ = _; unfold cdB; rw [HZ.out, HY.out]; rfl
        go_wp2
        go_ret2
        exact ⟨ret_ib HZ1.out HZ2.out, chain HB1.out hb⟩
set_option maxHeartbeats 2000000 in
theorem FnExactCheckDigit_law (xs : List Int) (m : Int) (v : Value) (hn : xs.length ≤ maxLen) (_hm : (Lit.int .i64 m).wf = true) (s : ByteArray) (hs : s.size ≤ maxLen) (w : World) (h : RdI xs v w) :
    Calls Tryd.prog 3 #[.agg #[v, .int .i64 m], .string s] w fun e w' => e = .returned (.bool true) ∧ Below w.heap.size w w' := by
  have hnm := hn
  unfold maxLen at hn
  have HV := Lib.hid h
  have hs1 : xs.length ≤ 1048576 → ∀ u W, RdI xs u W → Calls Tryd.prog 10 #[.agg #[u, .int .i64 m], .string s] W fun e w' => e = .returned ((.tuple #[.int .i64 (cdA xs m s.data.toList), .bool (cdB xs m s.data.toList)])) ∧ Below W.heap.size W w' := fun hn u W hr => sCd_any xs m s u W hn hs hr
  have hi1 : xs.length ≤ 1048576 → ∀ u W, RdI xs u W → Calls Tryd.prog 12 #[.agg #[u, .int .i64 m], .string s] W fun e w' => e = .returned ((.tuple #[.int .i64 (cdA xs m s.data.toList), .bool (cdB xs m s.data.toList)])) ∧ Below W.heap.size W w' := fun hn u W hr => iCd_any xs m s u W hn hs hr
  obtain ⟨A0, hA0⟩ : ∃ A0 : Int, A0 = cdA xs m s.data.toList := ⟨_, rfl⟩
  obtain ⟨A1, hA1⟩ : ∃ A1 : Bool, A1 = cdB xs m s.data.toList := ⟨_, rfl⟩
  rw [← hA0, ← hA1] at hs1 hi1
  have HS := Lib.hid hs1
  have HI := Lib.hid hi1
  clear h hs1 hi1 hA0 hA1
  have hs' := hs
  unfold maxLen at hs'
  by_cases hbs : (s.size : Int) ≤ 1048576
  case neg =>
    go_enter Tryd.func3, Tryd.ntmps3
    go_wp2
    go_ret
    exact ⟨rfl, by first | exact Below.refl _ _ | exact (Below.refl _ _).alloc (Nat.le_refl _) _⟩
  case pos =>
    go_enter Tryd.func3, Tryd.ntmps3
    go_wp2_with (go_at_call 9; go_must ((with_reducible refine (szCheck_any xs m v _ hnm (HV.out.below (by go_grown))).mono ?_); rintro e w1 ⟨⟨r, rfl, hr⟩, b1⟩; obtain ⟨c0, c1, hz⟩ := box2_kept b1; by_cases hr0 : r < 0))
    all_goals go_wp2_with fail
    · go_ret
      exact ⟨rfl, chain (w := w) (by go_grown) b1⟩
    · have hN := hr (by omega)
      have B1 : Below w.heap.size w w1 := chain (w := w) (by go_grown) b1
      have A1 := HV.out.below B1
      have HS' := Lib.hid (HS.out hN)
      have HI' := Lib.hid (HI.out hN)
      clear hr b1
      go_wp2_with (first
        | (go_at_call 11; (with_reducible refine (toCheck_any xs m v _ hN A1).mono ?_); rintro e w2 ⟨⟨g2, rfl, u2⟩, b2⟩; obtain ⟨d0, d1, dz⟩ := keep2 hz c0 c1 b2; have B2 := chain B1 b2)
        | (go_at_call 10; (with_reducible refine (HS'.out _ _ u2.rd).mono ?_); rintro e w3 ⟨rfl, b3⟩; obtain ⟨e0, e1, ez⟩ := keep2 dz d0 d1 b3; have B3 := chain B2 b3; have A3 := HV.out.below B3)
        | (go_at_call 11; (with_reducible refine (toCheck_any xs m v _ hN A3).mono ?_); rintro e w4 ⟨⟨g4, rfl, u4⟩, b4⟩; obtain ⟨f0, f1, fz⟩ := keep2 ez e0 e1 b4; have B4 := chain B3 b4; have u5 := u4.below ((Below.refl _ _).alloc (Nat.le_refl _) (.cells #[.slice (some ⟨g4, 0, none⟩) xs.length xs.length, .int .i64 m] 28)); have B5 : Below w.heap.size w (w4.alloc (.cells #[.slice (some ⟨g4, 0, none⟩) xs.length xs.length, .int .i64 m] 28)) := B4.alloc B4.size _)
        | (go_at_call 12; (with_reducible refine (HI'.out _ _ u5.rd).mono ?_); rintro e w6 ⟨rfl, b6⟩; obtain ⟨x0, x1, xz⟩ := box2_kept b6; obtain ⟨y0, y1, yz⟩ := keep2 fz f0 f1 (chain (w := w4) (by go_grown) b6); have B6 := chain B5 b6; have A6 := HV.out.below B6; have u6 := u5.below b6))
      go_region_with (first
        | (go_at_call 11; (with_reducible refine (toCheck_any xs m v _ hN (A6.below (by go_grown))).mono ?_); rintro e w7 ⟨⟨g7, rfl, u7⟩, b7⟩; have B7 : Below w6.heap.size w6 w7 := chain (w := w6) (by go_grown) b7; obtain ⟨z0, z1, zz⟩ := keep2 xz x0 x1 B7)
        | (go_at_call 13; (with_reducible refine (eqCheck_yes m _ _ xs _ _ _ hN (u6.below B7) u7).mono ?_); rintro e w8 ⟨rfl, b8⟩; have B8 : Below w6.heap.size w6 w8 := chain B7 b8))
      all_goals go_wp2
      all_goals
        go_ret
        exact ⟨rfl, chain B6 B8⟩
end Go.Proofs.YtleifibbdjplbaaDoor
