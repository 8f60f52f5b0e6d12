/-
  Least numbers: GreatestOfDigits.
-/
import Derived.Test.YtghjpanabphbpaaDoorLeCnt
import Derived.Test.YtghjpanabphbpaaDoorLeNum
import Derived.Test.YtghjpanabphbpaaDoorLeBld
namespace Go.Proofs.YtghjpanabphbpaaDoor
open Go.RowKit
set_option maxRecDepth 100000

theorem gv_last (k : Nat) : ∀ S, gv S (k + 1) = gv S k * 10 + ld S k := by
  induction k with
  | zero => intro S; simp [gv, ld]
  | succ k ih =>
    intro S
    have h := ih (S - min S 9)
    have e : ld S (k + 1) = ld (S - min S 9) k := by unfold ld; omega
    rw [gv, h, e]
    have h2 : gv S (k + 1) = min S 9 * 10 ^ k + gv (S - min S 9) k := rfl
    rw [h2, Nat.add_mul, Nat.pow_succ, Nat.mul_assoc]; omega
theorem nl_rev (S d : Nat) : nl (ll S d).reverse = gv S d := by
  induction d with
  | zero => rfl
  | succ d ih => rw [ll, List.reverse_cons, nl_snoc, ih, gv_last]
theorem tx_rev (l : List Nat) : (tx l).reverse = tx l.reverse := by simp [tx, List.map_reverse]
theorem dnum_rev (S d : Nat) : dnum (lh S d).reverse = (gv S d : Nat) := by
  rw [lh_ll, tx_rev, dnum_tx _ (fun x hx => ll_9 S d x (List.mem_reverse.1 hx)), nl_rev]
theorem dig_rev (S d : Nat) : digB (lh S d).reverse = true := by
  rw [lh_ll, tx_rev]; exact tx_dig _ (fun x hx => ll_9 S d x (List.mem_reverse.1 hx))
theorem byteCells_snoc' (l : List UInt8) (c : UInt8) : Lib.byteCells (l ++ [c]) = Lib.byteCells l ++ [.int .u8 c.toNat] := by simp [Lib.byteCells]
theorem bytes_len' (l : List UInt8) (k : Nat) : (Lib.byteCells (l.take k)).length ≤ k := by simp [Lib.byteCells]; omega
def rv (s : ByteArray) : List UInt8 := s.data.toList.reverse
theorem rv_snoc (s : ByteArray) (k : Nat) (h : k < s.size) : (rv s).take (k + 1) = (rv s).take k ++ [s[s.size - 1 - k]'(by omega)] := by
  have hl : k < (rv s).length := by simpa [rv] using h
  rw [List.take_succ_eq_append_getElem hl]
  congr 2
  simp only [rv, List.getElem_reverse]
  rfl
theorem rv_all (s : ByteArray) : (rv s).take s.size = rv s := List.take_of_length_le (by simp [rv])
set_option maxHeartbeats 400000 in
theorem turned_any (s : ByteArray) (w : World) (hs : s.size ≤ 13) :
    Calls Tryd.prog 59 #[.string s] w fun e w' => e = .returned (.string ⟨(rv s).toArray⟩) ∧ Below w.heap.size w w' := by
  go_enter Tryd.func59, Tryd.ntmps59
  go_wp2
  go_loopw [7] (fun i wr => ∃ k : Nat, k ≤ s.size ∧ i = .int .i64 k ∧ Lib.IsBuilder 53 5 w.heap.size w.heap.size (Lib.byteCells ((rv s).take k)) wr ∧ Below w.heap.size w wr ∧ w.heap.size ≤ wr.heap.size) (fun i _ => s.size - (intOf i).toNat)
  case atStart => exact ⟨0, Nat.zero_le _, rfl, Lib.fresh_isBuilder 53 5 w, by go_grown, by simp⟩
  case round =>
    obtain ⟨k, hk, rfl, hbld, hbl, hsz⟩ := hrel
    have HB := Lib.hid hbld
    clear hbld
    by_cases hlt : k < s.size
    · go_wp2_with (go_at_call 76; go_must (refine (wb_any w.heap.size _ _ _ _ HB.out (by have := bytes_len' (rv s) k; omega) hsz).mono ?_); rintro e w1 ⟨rfl, h1, b1, _⟩; have H1 := Lib.hid h1; have hz := b1.size; have hb := hbl.trans (b1.mono (by omega)); clear b1 h1)
      go_roundw
      case rel => exact ⟨k + 1, by omega, by go_num, by rw [rv_snoc s k hlt, byteCells_snoc']; exact .inr H1.out, hb, by omega⟩
      case measure => simp [intOf]; omega
    · have he : (rv s).take k = rv s := by rw [show k = s.size by omega]; exact rv_all s
      have HE := Lib.hid he; clear he
      go_wp2_with (go_at_call 77; go_must (refine (bstr_any w.heap.size _ _ _ HB.out hsz).mono ?_); rintro e w1 ⟨rfl, b1⟩)
      go_ret
      exact ⟨by rw [HE.out]; rfl, hbl.trans (b1.mono (by omega))⟩
theorem greatest_any (d S : Nat) (w : World) (hd : d ≤ 12) (hS : S ≤ 108) :
    Calls Tryd.prog 45 #[.int .i64 d, .int .i64 S] w fun e w' => e = .returned (.int .i64 (gv S d : Nat)) ∧ Below w.heap.size w w' := by
  have HF := Lib.hid (fun W => half_any S d hS hd W)
  have HT := Lib.hid (fun W => turned_any ⟨(lh S d).toArray⟩ W (by rw [sz_of, lh_len]; omega))
  have hn := fun W => numL_any (lh S d).reverse W (by rw [List.length_reverse, lh_len]; omega) (dig_rev S d)
  rw [dnum_rev] at hn
  have HN := Lib.hid hn
  have HR : Hid (rv ⟨(lh S d).toArray⟩ = (lh S d).reverse) := rfl
  clear hn
  go_enter Tryd.func45, Tryd.ntmps45
  go_wp2_with (first | (go_at_call 40; (with_reducible refine (HF.out _).mono ?_); rintro e w1 ⟨rfl, b1⟩) | (go_at_call 59; (with_reducible refine (HT.out _).mono ?_); rintro e w2 ⟨rfl, b2⟩; rw [HR.out]) | (go_at_call 39; (with_reducible refine (HN.out _).mono ?_); rintro e w' ⟨rfl, rfl⟩))
  go_ret
  exact ⟨rfl, chain b1 b2⟩
/-- There is one. -/
def ogB (d s : Int) : Bool := lnB d && smB s && decide (s ≤ 9 * d ∧ (0 < s ∨ d = 1))
theorem ogB_iff (d s : Int) : ogB d s = true ↔ (1 ≤ d ∧ d ≤ 12) ∧ (0 ≤ s ∧ s ≤ 108) ∧ s ≤ 9 * d ∧ (0 < s ∨ d = 1) := by
  unfold ogB; rw [Bool.and_eq_true, Bool.and_eq_true, lnB_iff, smB_iff, decide_eq_true_iff, and_assoc]
theorem cN_og {d s : Int} (h1 : lnB d = true) (h2 : smB s = true) : (cN d.toNat s ≠ 0) ↔ ogB d s = true := by
  have a := (lnB_iff d).1 h1
  have b := (smB_iff s).1 h2
  rw [cN_pos (show 1 ≤ d.toNat by omega) b.1, ogB_iff]
  constructor
  · intro h; refine ⟨a, b, ?_⟩; omega
  · intro h; have := h.2.2; omega
theorem leDigits_any (d s : Int) (w : World) :
    Calls Tryd.prog 41 #[.int .i64 d, .int .i64 s] w fun e w' => e = .returned (.bool (ogB d s)) ∧ w = w' := by
  have HZ := Lib.hid (fun W => llen_any d W)
  have HS := Lib.hid (fun W => leSum_any s W)
  cases hd : lnB d with
  | false =>
    have hb : ogB d s = false := by unfold ogB; rw [hd]; rfl
    rw [hb]; rw [hd] at HZ
    clear hb hd
    go_enter Tryd.func41, Tryd.ntmps41
    go_wp2_with (go_at_call 60; (with_reducible refine (HZ.out _).mono ?_); rintro e w' ⟨rfl, rfl⟩)
    go_ret
    exact ⟨rfl, rfl⟩
  | true =>
    obtain ⟨d0, d1⟩ := (lnB_iff d).1 hd
    cases hs : smB s with
    | false =>
      have hb : ogB d s = false := by unfold ogB; rw [hs]; simp
      rw [hb]; rw [hd] at HZ; rw [hs] at HS
      clear hb hd hs
      go_enter Tryd.func41, Tryd.ntmps41
      go_wp2_with (first | (go_at_call 60; (with_reducible refine (HZ.out _).mono ?_); rintro e w' ⟨rfl, rfl⟩) | (go_at_call 36; (with_reducible refine (HS.out _).mono ?_); rintro e w' ⟨rfl, rfl⟩))
      go_ret
      exact ⟨rfl, rfl⟩
    | true =>
      obtain ⟨s0, s1⟩ := (smB_iff s).1 hs
      have hb : ogB d s = decide (s ≤ 9 * d ∧ (0 < s ∨ d = 1)) := by unfold ogB; rw [hd, hs]; rfl
      rw [hb]; rw [hd] at HZ; rw [hs] at HS
      clear hb hd hs
      have hx : ∀ a b c : Bool, (a = decide (s ≤ 9 * d)) → (b = decide (0 < s)) → (c = decide (d = 1)) → (a && (b || c)) = decide (s ≤ 9 * d ∧ (0 < s ∨ d = 1)) := fun a b c e1 e2 e3 => by
        rw [e1, e2, e3]; simp [Bool.decide_and, Bool.decide_or]
      by_cases k1 : s ≤ 9 * d <;> by_cases k2 : 0 < s <;> by_cases k3 : d = 1
      all_goals
        have h1 := hx _ _ _ rfl rfl rfl
        first | rw [decide_eq_true k1] at h1 | rw [decide_eq_false k1] at h1
        first | rw [decide_eq_true k2] at h1 | rw [decide_eq_false k2] at h1
        first | rw [decide_eq_true k3] at h1 | rw [decide_eq_false k3] at h1
        have h2 := h1.symm
        obtain ⟨R, hR⟩ : ∃ R, decide (s ≤ 9 * d ∧ (0 < s ∨ d = 1)) = R := ⟨_, rfl⟩
        rw [hR] at h2 ⊢
        simp only [Bool.true_and, Bool.false_and, Bool.or_true, Bool.or_false, Bool.or_self] at h2
        clear h1 hR hx
        subst h2
        first | (have k4 := beq_eq_false_iff_ne.2 k3) | (subst k3)
        first | (have k5 : (0 < s) = False := eq_false k2) | skip
        go_enter Tryd.func41, Tryd.ntmps41
        go_wp2_with (first | (go_at_call 60; (with_reducible refine (HZ.out _).mono ?_); rintro e w' ⟨rfl, rfl⟩) | (go_at_call 36; (with_reducible refine (HS.out _).mono ?_); rintro e w' ⟨rfl, rfl⟩))
        all_goals go_ret
        all_goals exact ⟨by first | rfl | simp [k5], rfl⟩
theorem ofDigits_yes (d s A : Int) (g : Nat) (w : World) (h : ogB d s = true) (eg : ∀ args w, (callFunc g args).run Tryd.prog w = .ok (.enter g args) w)
    (hf : ∀ W, Calls Tryd.prog g #[.int .i64 d, .int .i64 s] W fun e w' => e = .returned (.int .i64 A) ∧ Below W.heap.size W w') :
    Calls Tryd.prog 43 #[.int .i64 d, .int .i64 s, .func (.func g) #[] #[]] w fun e w' => e = .returned (.tuple #[.int .i64 A, .bool true]) ∧ Below w.heap.size w w' := by
  obtain ⟨⟨d0, d1⟩, ⟨s0, s1⟩, _⟩ := (ogB_iff d s).1 h
  have hd : lnB d = true := (lnB_iff d).2 ⟨d0, d1⟩
  have hs : smB s = true := (smB_iff s).2 ⟨s0, s1⟩
  have HZ := Lib.hid (fun W => isLength_any d W)
  have HS := Lib.hid (fun W => isSum_any s W)
  have hne := (cN_og hd hs).2 h
  have hc := fun W => countOf_any d.toNat s W (by omega) (by omega)
  rw [show ((d.toNat : Nat) : Int) = d by omega] at hc
  obtain ⟨C, hC⟩ : ∃ C, cN d.toNat s = C := ⟨_, rfl⟩
  rw [hC] at hc hne
  have HC := Lib.hid hc
  have HF := Lib.hid hf
  have hne2 : (C == 0) = false := beq_eq_false_iff_ne.2 hne
  rw [hd] at HZ
  rw [hs] at HS
  clear hC hc hd hs h hf
  go_enter Tryd.func43, Tryd.ntmps43
  go_wp2_with (first | (go_at_call 65; (with_reducible refine (HZ.out _).mono ?_); rintro e w' ⟨rfl, rfl⟩) | (go_at_call 38; (with_reducible refine (HS.out _).mono ?_); rintro e w' ⟨rfl, rfl⟩) | (go_at_call 66; (with_reducible refine (HC.out _).mono ?_); rintro e w1 ⟨rfl, b1⟩) | (go_at_fn g; refine (HF.out _).mono ?_; rintro e w2 ⟨rfl, b2⟩))
  go_ret2
  exact ⟨rfl, chain b1 b2⟩
theorem ofDigits_no (d s : Int) (v : Value) (w : World) (h : ogB d s = false) :
    Calls Tryd.prog 43 #[.int .i64 d, .int .i64 s, v] w fun e w' => e = .returned (.tuple #[.int .i64 0, .bool false]) ∧ Below w.heap.size w w' := by
  have HZ := Lib.hid (fun W => isLength_any d W)
  have HS := Lib.hid (fun W => isSum_any s W)
  cases hd : lnB d with
  | false =>
    rw [hd] at HZ
    clear hd h
    go_enter Tryd.func43, Tryd.ntmps43
    go_wp2_with (go_at_call 65; (with_reducible refine (HZ.out _).mono ?_); rintro e w' ⟨rfl, rfl⟩)
    go_ret2
    exact ⟨rfl, Below.refl _ _⟩
  | true =>
    cases hs : smB s with
    | false =>
      rw [hd] at HZ
      rw [hs] at HS
      clear hd hs h
      go_enter Tryd.func43, Tryd.ntmps43
      go_wp2_with (first | (go_at_call 65; (with_reducible refine (HZ.out _).mono ?_); rintro e w' ⟨rfl, rfl⟩) | (go_at_call 38; (with_reducible refine (HS.out _).mono ?_); rintro e w' ⟨rfl, rfl⟩))
      go_ret2
      exact ⟨rfl, Below.refl _ _⟩
    | true =>
      obtain ⟨d0, d1⟩ := (lnB_iff d).1 hd
      have hz : cN d.toNat s = 0 := Classical.byContradiction fun hne => by
        have := (cN_og hd hs).1 hne
        rw [h] at this; cases this
      have hc := fun W => countOf_any d.toNat s W (by omega) (by omega)
      rw [show ((d.toNat : Nat) : Int) = d by omega, hz] at hc
      have HC := Lib.hid hc
      rw [hd] at HZ
      rw [hs] at HS
      clear hd hs h hz hc
      go_enter Tryd.func43, Tryd.ntmps43
      go_wp2_with (first | (go_at_call 65; (with_reducible refine (HZ.out _).mono ?_); rintro e w' ⟨rfl, rfl⟩) | (go_at_call 38; (with_reducible refine (HS.out _).mono ?_); rintro e w' ⟨rfl, rfl⟩) | (go_at_call 66; (with_reducible refine (HC.out _).mono ?_); rintro e w1 ⟨rfl, b1⟩))
      go_ret2
      exact ⟨rfl, b1⟩
/-- What GreatestOfDigits answers. -/
def goA (d s : Int) : Int := if ogB d s = true then (gv s.toNat d.toNat : Nat) else 0
theorem goA_yes {d s : Int} (h : ogB d s = true) : goA d s = (gv s.toNat d.toNat : Nat) := by rw [goA, if_pos h]
theorem goA_no {d s : Int} (h : ogB d s = false) : goA d s = 0 := by rw [goA, if_neg (by simp [h])]
theorem iGo_any (d s : Int) (w : World) :
    Calls Tryd.prog 19 #[.int .i64 d, .int .i64 s] w fun e w' => e = .returned (.tuple #[.int .i64 (goA d s), .bool (ogB d s)]) ∧ Below w.heap.size w w' := by
  cases h : ogB d s with
  | false =>
    have HD := Lib.hid (fun v W => ofDigits_no d s v W h)
    have HA := Lib.hid (goA_no h)
    clear h
    go_enter Tryd.func19, Tryd.ntmps19
    go_wp2_with (go_at_call 43; refine (HD.out _ _).mono ?_; rintro e w1 ⟨rfl, b1⟩)
    go_ret2
    exact ⟨ret_ib HA.out.symm rfl, b1⟩
  | true =>
    obtain ⟨⟨d0, d1⟩, ⟨s0, s1⟩, _⟩ := (ogB_iff d s).1 h
    have hg := fun W => greatest_any d.toNat s.toNat W (by omega) (by omega)
    rw [show ((d.toNat : Nat) : Int) = d by omega, show ((s.toNat : Nat) : Int) = s by omega] at hg
    have HD := Lib.hid (fun W => ofDigits_yes d s _ 45 W h (enters_of Tryd.func45 (by kernel_rfl) rfl) hg)
    have HA := Lib.hid (goA_yes h)
    clear h hg
    go_enter Tryd.func19, Tryd.ntmps19
    go_wp2_with (go_at_call 43; refine (HD.out _).mono ?_; rintro e w1 ⟨rfl, b1⟩)
    go_ret2
    exact ⟨ret_ib HA.out.symm rfl, b1⟩
theorem sGo_any (d s : Int) (w : World) :
    Calls Tryd.prog 18 #[.int .i64 d, .int .i64 s] w fun e w' => e = .returned (.tuple #[.int .i64 (goA d s), .bool (ogB d s)]) ∧ Below w.heap.size w w' := by
  have HZ := Lib.hid (fun W => leDigits_any d s W)
  cases h : ogB d s with
  | false =>
    have HA := Lib.hid (goA_no h)
    rw [h] at HZ
    clear h
    go_enter Tryd.func18, Tryd.ntmps18
    go_wp2_with (go_at_call 41; (with_reducible refine (HZ.out _).mono ?_); rintro e w' ⟨rfl, rfl⟩)
    go_ret2
    exact ⟨ret_ib HA.out.symm rfl, Below.refl _ _⟩
  | true =>
    obtain ⟨⟨d0, d1⟩, ⟨s0, s1⟩, s9, _⟩ := (ogB_iff d s).1 h
    have hf := fun W => fillG_any d.toNat s.toNat W (by omega) (by omega)
    rw [show ((d.toNat : Nat) : Int) = d by omega, show ((s.toNat : Nat) : Int) = s by omega] at hf
    have HF := Lib.hid hf
    have HA := Lib.hid (goA_yes h)
    rw [h] at HZ
    clear h hf
    go_enter Tryd.func18, Tryd.ntmps18
    go_wp2_with (first | (go_at_call 41; (with_reducible refine (HZ.out _).mono ?_); rintro e w' ⟨rfl, rfl⟩) | (go_at_call 37; refine (HF.out _).mono ?_; rintro e w' ⟨rfl, rfl⟩))
    go_ret2
    exact ⟨ret_ib HA.out.symm rfl, Below.refl _ _⟩
theorem FnExactGreatestOfDigits_law (d s : Int) (_h0 : (Lit.int .i64 d).wf = true) (_h1 : (Lit.int .i64 s).wf = true) (w : World) :
    Calls Tryd.prog 5 #[.int .i64 d, .int .i64 s] w fun e w' => e = .returned (.bool true) ∧ Below w.heap.size w w' := by
  have hs1 : ∀ W, Calls Tryd.prog 18 #[.int .i64 d, .int .i64 s] W fun e w' => e = .returned (.tuple #[.int .i64 (goA d s), .bool (ogB d s)]) ∧ Below W.heap.size W w' := fun W => sGo_any d s W
  have hi1 : ∀ W, Calls Tryd.prog 19 #[.int .i64 d, .int .i64 s] W fun e w' => e = .returned (.tuple #[.int .i64 (goA d s), .bool (ogB d s)]) ∧ Below W.heap.size W w' := fun W => iGo_any d s W
  obtain ⟨A0, hA0⟩ : ∃ A0 : Int, A0 = goA d s := ⟨_, rfl⟩
  obtain ⟨A1, hA1⟩ : ∃ A1 : Bool, A1 = ogB d s := ⟨_, rfl⟩
  rw [← hA0, ← hA1] at hs1 hi1
  have HS := Lib.hid hs1
  have HI := Lib.hid hi1
  clear hs1 hi1 hA0 hA1
  go_enter Tryd.func5, Tryd.ntmps5
  go_wp2_with (first | (go_at_call 18; (with_reducible refine (HS.out _).mono ?_); rintro e w1 ⟨rfl, b1⟩) | (go_at_call 19; (with_reducible refine (HI.out _).mono ?_); rintro e w2 ⟨rfl, b2⟩))
  go_ret
  exact ⟨rfl, chain b1 b2⟩
end Go.Proofs.YtghjpanabphbpaaDoor
