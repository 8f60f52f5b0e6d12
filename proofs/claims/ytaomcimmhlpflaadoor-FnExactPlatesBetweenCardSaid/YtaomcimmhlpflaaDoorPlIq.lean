/-
  Whether a text is a plate: both sides.
-/
import Derived.Test.YtaomcimmhlpflaaDoorPlSf
namespace Go.Proofs.YtaomcimmhlpflaaDoor
open Go.RowKit

theorem Ints.len {B : Nat} {xs : List Int} {v : Value} {w : World} (h : Ints B xs v w) : ∃ a cap, v = .slice a xs.length cap := by
  rcases h.2 with ⟨hv, hn⟩ | ⟨g, cap, cur, hv, _⟩
  · exact ⟨none, 0, by rw [hv, hn]⟩
  · exact ⟨_, cap, hv⟩
theorem wix_free (ts : List (List UInt8)) (t : List UInt8) : decide (((wix ts t ts.length).length : Int) = 0) = decide (Free ts t) := by
  rw [decide_eq_decide]
  unfold wix
  rw [List.length_map]
  constructor
  · intro h
    apply free_yes
    intro k hk hin
    have h2 : ((List.range ts.length).filter (fun i => decide (ts.getD i [] <:+: t))).length = 0 := by omega
    have h3 := List.eq_nil_of_length_eq_zero h2
    have h4 : k ∈ (List.range ts.length).filter (fun i => decide (ts.getD i [] <:+: t)) := List.mem_filter.2 ⟨List.mem_range.2 hk, decide_eq_true hin⟩
    rw [h3] at h4; simp at h4
  · intro h
    have h3 : (List.range ts.length).filter (fun i => decide (ts.getD i [] <:+: t)) = [] := by
      rw [List.filter_eq_nil_iff]
      intro k hk hin
      exact free_no k (List.mem_range.1 hk) (of_decide_eq_true hin) h
    rw [h3]; rfl
theorem isP_len {P B t : List UInt8} {ts : List (List UInt8)} (h : ¬ t.length = P.length) : isP P B ts t = false := by unfold isP; rw [decide_eq_false h]; rfl
theorem isP_fit {P B t : List UInt8} {ts : List (List UInt8)} (h : fitsB P B t = false) : isP P B ts t = false := by unfold isP; rw [h]; simp
theorem isP_all {P B t : List UInt8} {ts : List (List UInt8)} (h1 : t.length = P.length) (h : fitsB P B t = true) : isP P B ts t = decide (Free ts t) := by unfold isP; rw [h, decide_eq_true h1]; rfl
set_option maxRecDepth 100000 in
set_option maxHeartbeats 4000000 in
theorem isPl_any (P B t : ByteArray) (ts : List (List UInt8)) (v : Value) (w : World) (hf : Fit P B ts) (hn3 : ts.length ≤ 3) (ht0 : t.size ≤ 1048576) (h : Rd ts v w) (hm : MaxIs w) :
    Calls Tryd.prog 49 #[.agg #[.string P, .string B, v], .string t] w fun e w' => e = .returned (.bool (isP P.data.toList B.data.toList ts t.data.toList)) ∧ Below w.heap.size w w' := by
  have HV := Lib.hid h
  have HM := Lib.hid hm
  have HF := Lib.hid hf
  have hps := hf.p
  have htl : t.data.toList.length = t.size := by simp
  have hpl : P.data.toList.length = P.size := by simp
  have HTL := Lib.hid htl
  have HPL := Lib.hid hpl
  clear h hm hf htl hpl
  by_cases hsz : t.size = P.size
  rotate_left
  · have hszI : ¬ (t.size : Int) = (P.size : Int) := by omega
    have HNO : Hid (isP P.data.toList B.data.toList ts t.data.toList = false) := isP_len (by rw [HTL.out, HPL.out]; exact hsz)
    go_enter Tryd.func49, Tryd.ntmps49
    go_wp2
    go_ret
    exact ⟨ret_bool HNO.out.symm, by go_grown⟩
  · have hszI : (t.size : Int) = (P.size : Int) := by omega
    go_enter Tryd.func49, Tryd.ntmps49
    go_wp2
    clear hszI
    obtain ⟨b0, hb00⟩ : ∃ b0, b0 = w.heap.size := ⟨_, rfl⟩
    obtain ⟨W, hW⟩ : ∃ W, W = w.alloc (.cells #[.string P, .string B, v] 26) := ⟨_, rfl⟩
    have HBLK : Hid (Below w.heap.size w W) := by show Below _ _ _; rw [hW]; exact (Below.refl _ _).alloc (Nat.le_refl _) _
    have hc0 : W.cell? ⟨b0, 0, none⟩ = some (.string P) := by rw [hW, hb00]; simp
    have hc1 : W.cell? ⟨b0, 1, none⟩ = some (.string B) := by rw [hW, hb00]; simp
    have hc2 : W.cell? ⟨b0, 2, none⟩ = some v := by rw [hW, hb00]; simp
    have hbl : b0 < W.heap.size := by rw [hW, hb00]; simp
    rw [← hW, ← hb00]
    clear hW hb00
    go_loopw [14] (fun i wr => ∃ k : Nat, k ≤ t.size ∧ i = .int .i64 k ∧ Hid (Below W.heap.size W wr) ∧ Hid (∀ j, j < k → (sgRow (P.data.toList.getD j 0) B.data.toList).contains (t.data.toList.getD j 0) = true)) (fun i _ => t.size - (intOf i).toNat)
    case atStart => exact ⟨0, Nat.zero_le _, rfl, Below.refl _ _, fun j hj => by omega⟩
    case round =>
      obtain ⟨k, hk, rfl, HB, HJ⟩ := hrel
      obtain ⟨d0, d1, d2, dz⟩ := keep3 hbl hc0 hc1 hc2 HB.out
      by_cases hlt : k < t.size
      · have hltp : k < P.size := by omega
        have hi1 : (0 : Int) ≤ (k : Int) := by omega
        have hi2 : (k : Int) < (t.size : Int) := by omega
        have hi3 : (k : Int) < (P.size : Int) := by omega
        obtain ⟨r, hr⟩ : ∃ r, r = Lib.indexByte (sgRow P[k] B.data.toList) t[k] := ⟨_, rfl⟩
        have hix : ∀ W, Calls Tryd.prog 75 #[.string ⟨(sgRow P[k] B.data.toList).toArray⟩, .int .u8 (t[k].toNat : Int)] W fun e w' => e = .returned (.int .i64 r) ∧ W = w' := by
          intro W; rw [hr]; exact idxB_any ⟨(sgRow P[k] B.data.toList).toArray⟩ t[k] W
        have hrn := indexByte_neg (sgRow P[k] B.data.toList) t[k]
        rw [← hr] at hrn
        have hrow : (sgRow (P.data.toList.getD k 0) B.data.toList).contains (t.data.toList.getD k 0) = (sgRow P[k] B.data.toList).contains t[k] := by rw [getD_at P k hltp, getD_at t k hlt]
        have hsf := fun W => signsFor_any P[k] B W
        clear hr
        cases hc : (sgRow P[k] B.data.toList).contains t[k] with
        | true =>
          rw [hc] at hrn hrow
          have hr0 : ¬ r < 0 := by simpa using hrn
          have HJ2 : Hid (∀ j, j < k + 1 → (sgRow (P.data.toList.getD j 0) B.data.toList).contains (t.data.toList.getD j 0) = true) := by
            intro j hj
            by_cases e : j = k
            · subst e; exact hrow
            · exact HJ.out j (by omega)
          clear hc hrn hrow
          obtain ⟨S, hS⟩ : ∃ S : ByteArray, S = ⟨(sgRow P[k] B.data.toList).toArray⟩ := ⟨_, rfl⟩
          rw [← hS] at hix hsf
          clear hS
          go_wp2
          go_region_with (first | (go_at_call 76; (with_reducible refine (hsf _).mono ?_); rintro e w1 ⟨rfl, b1⟩; have B1 : Below wr.heap.size wr w1 := chain (w := wr) (by go_grown) b1; obtain ⟨e0, e1, e2, ez⟩ := keep3 dz d0 d1 d2 B1) | (go_at_call 75; (with_reducible refine (hix _).mono ?_); rintro e w2 ⟨rfl, rfl⟩))
          all_goals go_wp2
          all_goals
            go_roundw
            case rel => exact ⟨k + 1, by omega, by go_num, HB.out.trans (B1.mono HB.out.size), HJ2⟩
            case measure => simp [intOf]; omega
        | false =>
          rw [hc] at hrn hrow
          have hr0 : r < 0 := by simpa using hrn
          have HNO : Hid (isP P.data.toList B.data.toList ts t.data.toList = false) := isP_fit (fits_no k (by rw [HTL.out]; exact hlt) hrow)
          clear hc hrn hrow
          obtain ⟨S, hS⟩ : ∃ S : ByteArray, S = ⟨(sgRow P[k] B.data.toList).toArray⟩ := ⟨_, rfl⟩
          rw [← hS] at hix hsf
          clear hS
          go_wp2
          go_region_with (first | (go_at_call 76; (with_reducible refine (hsf _).mono ?_); rintro e w1 ⟨rfl, b1⟩; have B1 : Below wr.heap.size wr w1 := chain (w := wr) (by go_grown) b1; obtain ⟨e0, e1, e2, ez⟩ := keep3 dz d0 d1 d2 B1) | (go_at_call 75; (with_reducible refine (hix _).mono ?_); rintro e w2 ⟨rfl, rfl⟩))
          all_goals go_wp2
          all_goals
            go_ret
            exact ⟨ret_bool HNO.out.symm, HBLK.out.trans ((HB.out.trans (B1.mono HB.out.size)).mono HBLK.out.size)⟩
      · have HIS : Hid (isP P.data.toList B.data.toList ts t.data.toList = decide (Free ts t.data.toList)) := isP_all (by rw [HTL.out, HPL.out]; exact hsz) (fits_yes (by rw [HTL.out, HPL.out]; omega) (fun i hi => HJ.out i (by rw [HTL.out] at hi; omega)))
        have hi2 : ¬ (k : Int) < (t.size : Int) := by omega
        have HBW : Hid (Below w.heap.size w wr) := HBLK.out.trans (HB.out.mono HBLK.out.size)
        have HWX := Lib.hid (wix_free ts t.data.toList)
        go_wp2_with (go_at_call 77; (with_reducible refine (wordsIn_any t ts _ _ ht0 (by omega) HF.out.t (HV.out.below HBW.out) (HM.out.below HBW.out)).mono ?_); rintro e w3 ⟨⟨u, rfl, hu⟩, b3⟩; obtain ⟨ua, ucap, hue⟩ := hu.len; rw [hue]; clear hu hue)
        go_ret
        exact ⟨ret_bool (by rw [HIS.out, ← HWX.out]; rfl), HBW.out.trans (b3.mono HBW.out.size)⟩
theorem plFits_b (P B t : ByteArray) (v : Value) (b : Bool) (w : World) (hPs : P.size ≤ 1048576) (hBs : B.size ≤ 1048576) (ht0 : t.size ≤ 1048576) (hpat : P.data.toList.all patC = true) (h : fitsB P.data.toList B.data.toList t.data.toList = b) :
    Calls Tryd.prog 69 #[.agg #[.string P, .string B, v], .string t] w fun e w' => e = .returned (.bool b) ∧ Below w.heap.size w w' := by subst h; exact plFits_any P B t v w hPs hBs ht0 hpat
theorem sch_pat {P B : List UInt8} {ts : List (List UInt8)} (h : schB P B ts = true) : P.all patC = true := by
  unfold schB patB at h; simp only [Bool.and_eq_true] at h; exact h.1.1.2
theorem plIs_any (P B t : ByteArray) (ts : List (List UInt8)) (v : Value) (w : World) (hf : Fit P B ts) (hpat : P.data.toList.all patC = true) (ht0 : t.size ≤ 1048576) (h : Rd ts v w) :
    Calls Tryd.prog 74 #[.agg #[.string P, .string B, v], .string t] w fun e w' => e = .returned (.bool (isP P.data.toList B.data.toList ts t.data.toList)) ∧ Below w.heap.size w w' := by
  have HV := Lib.hid h
  have HF := Lib.hid hf
  have htl : t.data.toList.length = t.size := by simp
  have hpl : P.data.toList.length = P.size := by simp
  have HTL := Lib.hid htl
  have HPL := Lib.hid hpl
  have HPAT := Lib.hid hpat
  clear h hf htl hpl hpat
  by_cases hsz : t.size = P.size
  rotate_left
  · have hszI : ¬ (t.size : Int) = (P.size : Int) := by omega
    have hq : ((t.size : Int) == (P.size : Int)) = false := by simpa using hszI
    have HNO : Hid (isP P.data.toList B.data.toList ts t.data.toList = false) := isP_len (by rw [HTL.out, HPL.out]; exact hsz)
    go_enter Tryd.func74, Tryd.ntmps74
    go_wp2
    go_ret
    exact ⟨ret_bool HNO.out.symm, by go_grown⟩
  · have hszI : (t.size : Int) = (P.size : Int) := by omega
    have hq : ((t.size : Int) == (P.size : Int)) = true := by simpa using hszI
    cases hfit : fitsB P.data.toList B.data.toList t.data.toList with
    | false =>
      have HNO : Hid (isP P.data.toList B.data.toList ts t.data.toList = false) := isP_fit hfit
      have HFT := Lib.hid hfit
      clear hfit hszI
      go_enter Tryd.func74, Tryd.ntmps74
      go_wp2_with (go_at_call 69; (with_reducible refine (plFits_b P B t v false _ HF.out.p HF.out.b ht0 HPAT.out HFT.out).mono ?_); rintro e w1 ⟨rfl, b1⟩)
      go_ret
      exact ⟨ret_bool HNO.out.symm, chain (w := w) (by go_grown) b1⟩
    | true =>
      have HIS : Hid (isP P.data.toList B.data.toList ts t.data.toList = decide (Free ts t.data.toList)) := isP_all (by rw [HTL.out, HPL.out]; exact hsz) hfit
      have HFT := Lib.hid hfit
      clear hfit hszI
      go_enter Tryd.func74, Tryd.ntmps74
      go_wp2_with (first | (go_at_call 69; (with_reducible refine (plFits_b P B t v true _ HF.out.p HF.out.b ht0 HPAT.out HFT.out).mono ?_); rintro e w1 ⟨rfl, b1⟩; obtain ⟨c0, c1, c2, hz⟩ := box_kept b1; have B1 : Below w.heap.size w w1 := chain (w := w) (by go_grown) b1) | (go_at_call 70; (with_reducible refine (plClean_any P B t ts v _ ht0 HF.out.n HF.out.t (HV.out.below B1)).mono ?_); rintro e w2 ⟨rfl, b2⟩))
      go_ret
      exact ⟨ret_bool HIS.out.symm, chain B1 b2⟩
end Go.Proofs.YtaomcimmhlpflaaDoor
