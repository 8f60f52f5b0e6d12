/-
  The best clue: both sides.
-/
import Derived.Test.YtakckgbkfnogbabDoorPzInt
namespace Go.Proofs.YtakckgbkfnogbabDoor
open Go.RowKit Go.Deep
set_option maxRecDepth 100000

def bcB (cs : List Cl) : Bool := pzB cs && decide (0 < cs.length)
def bcA (cs : List Cl) : Int := if bcB cs then ((bst cs (cs.length - 1)).1 : Nat) else 0
def bsI (cs : List Cl) : Nat → Nat × Nat
  | 0 => (0, 1296)
  | k + 1 => bst cs k
def bsS (cs : List Cl) : Nat → Nat × Nat
  | 0 => (0, 0)
  | k + 1 => bst cs k
theorem one1_le (cs : List Cl) (k : Nat) : one1 cs k ≤ 1296 := sol_len _
theorem bsI_yes {cs : List Cl} {k : Nat} (h : one1 cs k < (bsI cs k).2) : bsI cs (k + 1) = (k, one1 cs k) := by
  cases k with
  | zero => rfl
  | succ k => exact if_pos (show one1 cs (k + 1) < (bst cs k).2 from h)
theorem bsI_no {cs : List Cl} {k : Nat} (h : ¬ one1 cs k < (bsI cs k).2) : bsI cs (k + 1) = bsI cs k := by
  cases k with
  | zero =>
    have h1 := one1_le cs 0
    have h2 : ¬ one1 cs 0 < 1296 := h
    show (0, one1 cs 0) = (0, 1296)
    rw [show one1 cs 0 = 1296 by omega]
  | succ k => exact if_neg (show ¬ one1 cs (k + 1) < (bst cs k).2 from h)
theorem bsS_yes {cs : List Cl} {k : Nat} (h : k = 0 ∨ one1 cs k < (bsS cs k).2) : bsS cs (k + 1) = (k, one1 cs k) := by
  cases k with
  | zero => rfl
  | succ k =>
    rcases h with h | h
    · cases h
    · exact if_pos (show one1 cs (k + 1) < (bst cs k).2 from h)
theorem bsS_no {cs : List Cl} {k : Nat} (h0 : ¬ k = 0) (h : ¬ one1 cs k < (bsS cs k).2) : bsS cs (k + 1) = bsS cs k := by
  cases k with
  | zero => exact absurd rfl h0
  | succ k => exact if_neg (show ¬ one1 cs (k + 1) < (bst cs k).2 from h)
theorem bsI_le (cs : List Cl) (k : Nat) : (bsI cs k).2 ≤ 1296 ∧ (bsI cs k).1 ≤ k := by
  cases k with
  | zero => exact ⟨Nat.le_refl _, Nat.le_refl _⟩
  | succ k => have := bst_le cs k; exact ⟨this.1, by show (bst cs k).1 ≤ _; omega⟩
theorem bsS_le (cs : List Cl) (k : Nat) : (bsS cs k).2 ≤ 1296 ∧ (bsS cs k).1 ≤ k := by
  cases k with
  | zero => exact ⟨Nat.zero_le _, Nat.le_refl _⟩
  | succ k => have := bst_le cs k; exact ⟨this.1, by show (bst cs k).1 ≤ _; omega⟩
theorem one_cut (cs : List Cl) (k : Nat) (h : k < cs.length) : (cs.drop k).take (k + 1 - k) = [cs.getD k c0] := by
  rw [show k + 1 - k = 1 by omega, List.drop_eq_getElem_cons h, List.take_succ_cons, List.take_zero, List.getD_eq_getElem?_getD, List.getElem?_eq_getElem h]
  rfl
theorem AllC.one {cs : List Cl} (h : AllC cs) {k : Nat} (hk : k < cs.length) : AllC [cs.getD k c0] := h.sub (fun c hc => by simp only [List.mem_singleton] at hc; subst hc; exact mem_getD cs k c0 hk)
theorem cutLH (ad : Addr) (n cap l hh : Nat) (h1 : l ≤ hh) (h2 : hh ≤ cap) (W : World) :
    (Instr.slice 28 (.slice (some ad) n cap) (some (.int .i64 (l : Int))) (some (.int .i64 (hh : Int))) none).run Tryd.prog W = .ok (.slice (some (adC ad l cap)) (hh - l) (cap - l)) W := by
  rw [run_slice_lh W 28 (some ad) n cap (by kernel_rfl) .i64 .i64 (l : Int) (hh : Int) (by omega) (by omega) (by omega)]
  have hsz : (sizeOf (Tryd.prog.elem 28)).run Tryd.prog W = .ok 3 W := by kernel_rfl
  rw [hsz]
  unfold adC
  by_cases h : cap = l
  · simp [Result.andThen, sliced, h]
  · simp [Result.andThen, sliced, h]
set_option maxHeartbeats 8000000 in
theorem iBc_any (cs : List Cl) (ad : Addr) (n cap : Nat) (w : World) (hn : cs.length ≤ 1048576) (h : RdC cs (.slice (some ad) n cap) w) :
    Calls Tryd.prog 11 #[.agg #[.slice (some ad) n cap]] w fun e w' => e = .returned (.tuple #[.int .i64 (bcA cs), .bool (bcB cs)]) ∧ Below w.heap.size w w' := by
  have HV := Lib.hid h
  have HR := Lib.hid (h.alloc (.cells #[.slice (some ad) n cap] 30))
  have hb : Below w.heap.size w (w.alloc (.cells #[.slice (some ad) n cap] 30)) := (Below.refl _ _).alloc (Nat.le_refl _) _
  have HB := Lib.hid hb
  have HL := Lib.hid h.len
  clear h hb
  cases hg : pzB cs with
  | false =>
    have HG := Lib.hid hg
    have hz : bcB cs = false := by unfold bcB; rw [hg]; rfl
    have HS : Hid (0 = bcA cs) := by show _ = _; unfold bcA; rw [if_neg (by rw [hz]; simp)]
    have HZ : Hid (false = bcB cs) := hz.symm
    clear hg hz
    go_enter Tryd.func11, Tryd.ntmps11
    go_wp2_with (go_at_call 27; (with_reducible refine (isPuzzle_b cs false _ _ hn HR.out HG.out).mono ?_); rintro e w1 ⟨rfl, b1⟩)
    go_ret2
    exact ⟨ret_ib HS.out HZ.out, chain HB.out b1⟩
  | true =>
    have HG := Lib.hid hg
    have hl6 := pz_len hg
    have hall := AllC.of hg
    have HA := Lib.hid hall
    have hnl := HL.out.1
    have hnc := HL.out.2
    have HN : Hid (n = cs.length) := hnl
    have hn6 : n ≤ 6 := by omega
    have hcn : n ≤ cap := by omega
    by_cases h0 : n = 0
    · have hz : bcB cs = false := by unfold bcB; rw [decide_eq_false (by omega), Bool.and_false]
      have HS : Hid (0 = bcA cs) := by show _ = _; unfold bcA; rw [if_neg (by rw [hz]; simp)]
      have HZ : Hid (false = bcB cs) := hz.symm
      clear hg hz hall hnl hl6 hnc
      subst h0
      go_enter Tryd.func11, Tryd.ntmps11
      go_wp2_with (go_at_call 27; (with_reducible refine (isPuzzle_b cs true _ _ hn HR.out HG.out).mono ?_); rintro e w1 ⟨rfl, b1⟩; have e0 := (blk1 (box_at w _ b1)).1; have hz := box_lt w _ b1)
      go_ret2
      exact ⟨ret_ib HS.out HZ.out, chain HB.out b1⟩
    · have hz : bcB cs = true := by unfold bcB; rw [hg, decide_eq_true (by omega)]; rfl
      have HS : Hid (((bsI cs cs.length).1 : Nat) = bcA cs) := by
        show _ = _; unfold bcA; rw [if_pos hz]
        obtain ⟨m, hm⟩ : ∃ m, cs.length = m + 1 := ⟨cs.length - 1, by omega⟩
        rw [hm]; rfl
      have HZ : Hid (true = bcB cs) := hz.symm
      have hq : ((n : Int) == 0) = false := by rw [beq_eq_false_iff_ne]; omega
      have hn0 : ¬ (n : Int) = 0 := by omega
      clear hg hz hall hnl hl6 hnc
      go_enter Tryd.func11, Tryd.ntmps11
      go_wp2_with (first
        | (go_at_call 27; (with_reducible refine (isPuzzle_b cs true _ _ hn HR.out HG.out).mono ?_); rintro e wq ⟨rfl, bq⟩; have eq0 := (blk1 (box_at w _ bq)).1; have hzq := box_lt w _ bq; have hBq := chain HB.out bq)
        | (go_at_call 28; (refine (hidden_any _).mono ?_); rintro e w1 ⟨⟨t, rfl, ht⟩, b1⟩; obtain ⟨a9, c9, rfl⟩ := ht.val; rw [show (hT 4).length = 1296 by rw [hT_len]]; obtain ⟨e0, hz⟩ := keep1' hzq eq0 b1; have hB1 := chain hBq b1))
      have B1 := Lib.hid hB1
      have HE0 := Lib.hid e0
      clear hB1 b1 bq eq0 hzq hBq e0 ht
      go_loopw [4, 5, 22] (fun bv fv i wr => ∃ k : Nat, k ≤ n ∧ i = .int .i64 k ∧ bv = .int .i64 ((bsI cs k).1 : Nat) ∧ fv = .int .i64 ((bsI cs k).2 : Nat) ∧ Below w1.heap.size w1 wr) (fun _ _ i _ => n - (intOf i).toNat)
      case atStart => exact ⟨0, Nat.zero_le _, rfl, rfl, rfl, Below.refl _ _⟩
      case round =>
        obtain ⟨k, hk, rfl, rfl, rfl, hbl⟩ := hrel
        obtain ⟨wo', rfl⟩ : ∃ wo' : World, wo' = wr := ⟨_, rfl⟩
        have hsz := hbl.size
        have e0 := (hbl.cell (p := ⟨w.heap.size, 0, none⟩) hz).trans HE0.out
        have hz2 : w.heap.size < wo'.heap.size := by omega
        have BW : Below w.heap.size w wo' := B1.out.trans (hbl.mono (by omega))
        by_cases hlt : k < n
        · have hkc : k < cs.length := by rw [← HN.out]; exact hlt
          have hkI : (k : Int) < (n : Int) := by omega
          have hr := (HV.out.below BW).cut k (k + 1) (k + 1) (by omega) (by omega) (Nat.le_refl _)
          rw [one_cut cs k hkc, show k + 1 - k = 1 by omega] at hr
          obtain ⟨A, hA⟩ : ∃ A, adC ad k (k + 1) = A := ⟨_, rfl⟩
          rw [hA] at hr
          have HAD := Lib.hid hA
          have HR2 := Lib.hid hr
          obtain ⟨x, hx⟩ : ∃ x, one1 cs k = x := ⟨_, rfl⟩
          have HC := Lib.hid (fun (u : Value) (W : World) (hr : RdC [cs.getD k c0] u W) => count_x [cs.getD k c0] u x W (by simp) (HA.out.one hkc) hr hx)
          have hle := bsI_le cs k
          have hy := fun (h : one1 cs k < (bsI cs k).2) => bsI_yes h
          have hno := fun (h : ¬ one1 cs k < (bsI cs k).2) => bsI_no h
          rw [hx] at hy hno
          have HX := Lib.hid hx
          obtain ⟨p, hp⟩ : ∃ p, bsI cs k = p := ⟨_, rfl⟩
          rw [hp] at hy hno hle ⊢
          obtain ⟨b, f⟩ := p
          simp only at hy hno hle
          by_cases hxf : x < f
          · have HY := Lib.hid (hy hxf)
            have hxI : (x : Int) < (f : Int) := by omega
            clear hr hA hx hy hno hp
            go_wp2_with (first
              | (go_at_call 30; (refine (cut_to ad A n cap k (k + 1) 1 (k : Int) ((k : Int) + 1) _ HAD.out (by omega) rfl (by omega) (by omega) (by omega)).mono ?_); rintro e wc ⟨rfl, rfl⟩)
              | (go_at_call 29; (refine (HC.out _ _ HR2.out).mono ?_); rintro e w3 ⟨rfl, b3⟩))
            go_roundw
            case rel => exact ⟨k + 1, by omega, by go_num, by rw [HY.out], by rw [HY.out], hbl.trans (b3.mono hsz)⟩
            case measure => simp [intOf]; omega
          · have HY := Lib.hid (hno hxf)
            have hxI : ¬ (x : Int) < (f : Int) := by omega
            clear hr hA hx hy hno hp
            go_wp2_with (first
              | (go_at_call 30; (refine (cut_to ad A n cap k (k + 1) 1 (k : Int) ((k : Int) + 1) _ HAD.out (by omega) rfl (by omega) (by omega) (by omega)).mono ?_); rintro e wc ⟨rfl, rfl⟩)
              | (go_at_call 29; (refine (HC.out _ _ HR2.out).mono ?_); rintro e w3 ⟨rfl, b3⟩))
            go_roundw
            case rel => exact ⟨k + 1, by omega, by go_num, by rw [HY.out], by rw [HY.out], hbl.trans (b3.mono hsz)⟩
            case measure => simp [intOf]; omega
        · have HF : Hid (((bsI cs k).1 : Nat) = bcA cs) := by show _ = _; rw [show k = cs.length by have := HN.out; omega]; exact HS.out
          go_wp2
          go_ret2
          exact ⟨ret_ib HF.out HZ.out, BW⟩
set_option maxHeartbeats 8000000 in
theorem sBc_any (cs : List Cl) (ad : Addr) (n cap : Nat) (w : World) (hn : cs.length ≤ 1048576) (h : RdC cs (.slice (some ad) n cap) w) :
    Calls Tryd.prog 9 #[.agg #[.slice (some ad) n cap]] w fun e w' => e = .returned (.tuple #[.int .i64 (bcA cs), .bool (bcB cs)]) ∧ Below w.heap.size w w' := by
  have HV := Lib.hid h
  have HR := Lib.hid (h.alloc (.cells #[.slice (some ad) n cap] 30))
  have hb : Below w.heap.size w (w.alloc (.cells #[.slice (some ad) n cap] 30)) := (Below.refl _ _).alloc (Nat.le_refl _) _
  have HB := Lib.hid hb
  have HL := Lib.hid h.len
  clear h hb
  cases hg : pzB cs with
  | false =>
    have HG := Lib.hid hg
    have hz : bcB cs = false := by unfold bcB; rw [hg]; rfl
    have HS : Hid (0 = bcA cs) := by show _ = _; unfold bcA; rw [if_neg (by rw [hz]; simp)]
    have HZ : Hid (false = bcB cs) := hz.symm
    clear hg hz
    go_enter Tryd.func9, Tryd.ntmps9
    go_wp2_with (go_at_call 24; (with_reducible refine (pzGood_b cs false _ _ hn HR.out HG.out).mono ?_); rintro e w1 ⟨rfl, b1⟩)
    go_ret2
    exact ⟨ret_ib HS.out HZ.out, chain HB.out b1⟩
  | true =>
    have HG := Lib.hid hg
    have hl6 := pz_len hg
    have hall := AllC.of hg
    have HA := Lib.hid hall
    have hnl := HL.out.1
    have hnc := HL.out.2
    have HN : Hid (n = cs.length) := hnl
    have hn6 : n ≤ 6 := by omega
    have hcn : n ≤ cap := by omega
    by_cases h0 : n = 0
    · have hz : bcB cs = false := by unfold bcB; rw [decide_eq_false (by omega), Bool.and_false]
      have HS : Hid (0 = bcA cs) := by show _ = _; unfold bcA; rw [if_neg (by rw [hz]; simp)]
      have HZ : Hid (false = bcB cs) := hz.symm
      clear hg hz hall hnl hl6 hnc
      subst h0
      go_enter Tryd.func9, Tryd.ntmps9
      go_wp2_with (go_at_call 24; (with_reducible refine (pzGood_b cs true _ _ hn HR.out HG.out).mono ?_); rintro e w1 ⟨rfl, b1⟩; have e0 := (blk1 (box_at w _ b1)).1; have hz := box_lt w _ b1)
      go_ret2
      exact ⟨ret_ib HS.out HZ.out, chain HB.out b1⟩
    · have hz : bcB cs = true := by unfold bcB; rw [hg, decide_eq_true (by omega)]; rfl
      have HS : Hid (((bsS cs cs.length).1 : Nat) = bcA cs) := by
        show _ = _; unfold bcA; rw [if_pos hz]
        obtain ⟨m, hm⟩ : ∃ m, cs.length = m + 1 := ⟨cs.length - 1, by omega⟩
        rw [hm]; rfl
      have HZ : Hid (true = bcB cs) := hz.symm
      have hq : ((n : Int) == 0) = false := by rw [beq_eq_false_iff_ne]; omega
      have hn0 : ¬ (n : Int) = 0 := by omega
      clear hg hz hall hnl hl6 hnc
      go_enter Tryd.func9, Tryd.ntmps9
      go_wp2_with (go_at_call 24; (with_reducible refine (pzGood_b cs true _ _ hn HR.out HG.out).mono ?_); rintro e w1 ⟨rfl, b1⟩; have e0 := (blk1 (box_at w _ b1)).1; have hz := box_lt w _ b1; have hB1 := chain HB.out b1)
      have B1 := Lib.hid hB1
      have HE0 := Lib.hid e0
      clear hB1 b1 e0
      go_loopw [4, 5, 20] (fun bv fv i wr => ∃ k : Nat, k ≤ n ∧ i = .int .i64 k ∧ bv = .int .i64 ((bsS cs k).1 : Nat) ∧ fv = .int .i64 ((bsS cs k).2 : Nat) ∧ Below w1.heap.size w1 wr) (fun _ _ i _ => n - (intOf i).toNat)
      case atStart => exact ⟨0, Nat.zero_le _, rfl, rfl, rfl, Below.refl _ _⟩
      case round =>
        obtain ⟨k, hk, rfl, rfl, rfl, hbl⟩ := hrel
        obtain ⟨wo', rfl⟩ : ∃ wo' : World, wo' = wr := ⟨_, rfl⟩
        have hsz := hbl.size
        have e0 := (hbl.cell (p := ⟨w.heap.size, 0, none⟩) hz).trans HE0.out
        have hz2 : w.heap.size < wo'.heap.size := by omega
        have BW : Below w.heap.size w wo' := B1.out.trans (hbl.mono (by omega))
        by_cases hlt : k < n
        · have hkc : k < cs.length := by rw [← HN.out]; exact hlt
          have hkI : (k : Int) < (n : Int) := by omega
          have hr := (HV.out.below BW).cut k (k + 1) cap (by omega) (by omega) (by omega)
          rw [one_cut cs k hkc, show k + 1 - k = 1 by omega] at hr
          have hsl := fun W => cutLH ad n cap k (k + 1) (by omega) (by omega) W
          rw [show (((k + 1 : Nat) : Int)) = (k : Int) + 1 by omega, show k + 1 - k = 1 by omega] at hsl
          obtain ⟨A, hA⟩ : ∃ A, adC ad k cap = A := ⟨_, rfl⟩
          obtain ⟨cq, hcq⟩ : ∃ cq, cap - k = cq := ⟨_, rfl⟩
          rw [hA, hcq] at hr hsl
          have HR2 := Lib.hid hr
          obtain ⟨x, hx⟩ : ∃ x, one1 cs k = x := ⟨_, rfl⟩
          have HXL : Hid ((sol [cs.getD k c0]).length = x) := hx
          have HC := Lib.hid (fun (u : Value) (W : World) (hr : RdC [cs.getD k c0] u W) => pzAll_any [cs.getD k c0] u W (by simp) (HA.out.one hkc) hr)
          have hle := bsS_le cs k
          have hy := fun (h : k = 0 ∨ one1 cs k < (bsS cs k).2) => bsS_yes h
          have hno := fun (h0 : ¬ k = 0) (h : ¬ one1 cs k < (bsS cs k).2) => bsS_no h0 h
          rw [hx] at hy hno
          obtain ⟨p, hp⟩ : ∃ p, bsS cs k = p := ⟨_, rfl⟩
          rw [hp] at hy hno hle ⊢
          obtain ⟨b, f⟩ := p
          simp only at hy hno hle
          by_cases hk0 : k = 0
          · have HY := Lib.hid (hy (.inl hk0))
            have hkq : ((k : Int) == 0) = true := by rw [hk0]; rfl
            clear hr hA hcq hx hy hno hp hk0
            go_wp2_with (go_at_call 25; (refine (HC.out _ _ HR2.out).mono ?_); rintro e w3 ⟨⟨u9, rfl, hu9⟩, b3⟩; obtain ⟨a9, c9, rfl⟩ := hu9.val; rw [HXL.out])
            go_roundw
            case rel => exact ⟨k + 1, by omega, by go_num, by rw [HY.out], by rw [HY.out], hbl.trans (b3.mono hsz)⟩
            case measure => simp [intOf]; omega
          · have hkq : ((k : Int) == 0) = false := by rw [beq_eq_false_iff_ne]; omega
            by_cases hxf : x < f
            · have HY := Lib.hid (hy (.inr hxf))
              have hxI : (x : Int) < (f : Int) := by omega
              clear hr hA hcq hx hy hno hp hk0
              go_wp2_with (go_at_call 25; (refine (HC.out _ _ HR2.out).mono ?_); rintro e w3 ⟨⟨u9, rfl, hu9⟩, b3⟩; obtain ⟨a9, c9, rfl⟩ := hu9.val; rw [HXL.out])
              go_roundw
              case rel => exact ⟨k + 1, by omega, by go_num, by rw [HY.out], by rw [HY.out], hbl.trans (b3.mono hsz)⟩
              case measure => simp [intOf]; omega
            · have HY := Lib.hid (hno hk0 hxf)
              have hxI : ¬ (x : Int) < (f : Int) := by omega
              clear hr hA hcq hx hy hno hp hk0
              go_wp2_with (go_at_call 25; (refine (HC.out _ _ HR2.out).mono ?_); rintro e w3 ⟨⟨u9, rfl, hu9⟩, b3⟩; obtain ⟨a9, c9, rfl⟩ := hu9.val; rw [HXL.out])
              go_roundw
              case rel => exact ⟨k + 1, by omega, by go_num, by rw [HY.out], by rw [HY.out], hbl.trans (b3.mono hsz)⟩
              case measure => simp [intOf]; omega
        · have HF : Hid (((bsS cs k).1 : Nat) = bcA cs) := by show _ = _; rw [show k = cs.length by have := HN.out; omega]; exact HS.out
          go_wp2
          go_ret2
          exact ⟨ret_ib HF.out HZ.out, BW⟩
end Go.Proofs.YtakckgbkfnogbabDoor
