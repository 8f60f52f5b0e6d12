/-
  All runs with a sum: the model's side, and the laws of RunsWithSum, RunsOnSide and CountRuns.
-/
import Derived.Test.YtjjegpoimnkknaaHoRun3
import Derived.Test.YtjjegpoimnkknaaHoRw3
namespace Go.Proofs.Ytjjegpoimnkknaa
open Go.RowKit

theorem bd_mulR {x y X Y : Int} (h1 : 0 ≤ x) (h2 : x ≤ X) (h3 : 0 ≤ y) (h4 : y ≤ Y) : 0 ≤ x * y ∧ x * y ≤ X * Y :=
  ⟨Int.mul_nonneg h1 h3, Int.mul_le_mul h2 h4 h3 (by omega)⟩
theorem rst_eq (s t m : Int) : s - t * (m * (m - 1) / 2) = rst s t m := by
  have h := rst_two s t m
  obtain ⟨k, hk⟩ := even_mul (m - 1)
  have e1 : m * (m - 1) = 2 * k := by
    have : m * (m - 1) = (m - 1) * (m - 1 + 1) := by grind
    rw [this, hk]
  have e2 : m * m - m = 2 * k := by rw [← e1]; grind
  have e3 : t * (2 * k) = 2 * (t * k) := by grind
  rw [e1, show 2 * k / 2 = k by omega]
  rw [e2, e3] at h
  omega
set_option maxHeartbeats 4000000 in
theorem sRuns_any (s t : Int) (w : World) (hs : houB s = true) (ht : t = 1 ∨ t = 2) :
    Calls Try.prog 60 #[.int .i64 s, .int .i64 t] w fun e w' => (∃ v : Value, e = .returned v ∧ Rws w.heap.size (prR (ansR s t)) v w') ∧ Below w.heap.size w w' := by
  obtain ⟨h1, h2⟩ := (houB_iff s).1 hs
  have HS := Lib.hid hs
  have HT := Lib.hid ht
  have ht1 : 1 ≤ t := by omega
  have ht2 : t ≤ 2 := by omega
  clear ht
  go_enter Try.func60, Try.ntmps60
  go_wp2
  go_loopg [5, 6] 2000 (fun n o mv wr => ∃ (k : Nat) (m : Int), mv = .int .i64 m ∧ Hid (m = (k : Int) + 1) ∧ 2 ≤ m ∧ m ≤ 1501 ∧ k + n = 2001 ∧ Hid ((prR (runs s t k) = [] ∧ o = .slice none 0 0) ∨ (prR (runs s t k) ≠ [] ∧ Rws w.heap.size (prR (runs s t k)) o wr)) ∧ Below w.heap.size w wr)
  case atStart => exact ⟨1, 2, rfl, (by decide : (2 : Int) = ((1 : Nat) : Int) + 1), by omega, by omega, by omega, .inl ⟨by rw [show ((1 : Nat)) = 1 from rfl, runs_one]; rfl, rfl⟩, Below.refl _ _⟩
  case round =>
    obtain ⟨k, m, rfl, HK, hm1, hm2, hkn, HO, hb⟩ := hrel
    have hbs := hb.size
    have hp := bd_mulR (x := m) (y := m + 1) (X := 1501) (Y := 1502) (by omega) (by omega) (by omega) (by omega)
    have hq := bd_mulR (x := m) (y := m - 1) (X := 1501) (Y := 1500) (by omega) (by omega) (by omega) (by omega)
    obtain ⟨hp0, hp1⟩ := hp
    obtain ⟨hq0, hq1⟩ := hq
    have hk1 : 1 ≤ k := by have := HK.out; omega
    have hk2 : k ≤ 1500 := by have := HK.out; omega
    have hk3 : 1 ≤ gk := by omega
    have hlen : (prR (runs s t k)).length ≤ 1000000 := by
      rw [prR_len]
      have := runs_len s t k
      have := HK.out
      omega
    by_cases hc : m * (m + 1) / 2 ≤ s
    · have hmm : m + 1 ≤ 1501 := by
        have e1 : 1501 * m ≤ m * (m + 1) ∨ m + 1 ≤ 1501 := by
          by_cases hh : m + 1 ≤ 1501
          · exact .inr hh
          · refine .inl ?_
            rw [Int.mul_comm m (m + 1)]
            exact Int.mul_le_mul_of_nonneg_right (by omega) (by omega)
        rcases e1 with e1 | e1
        · omega
        · exact e1
      have hx := bd_mulR (x := t) (y := m * (m - 1) / 2) (X := 2) (Y := 2000000) (by omega) ht2 (by omega) (by omega)
      obtain ⟨hx0, hx1⟩ := hx
      have HE := Lib.hid (rst_eq s t m)
      obtain ⟨r, hr⟩ : ∃ r, r = s - t * (m * (m - 1) / 2) := ⟨_, rfl⟩
      have HRR : Hid (r = rst s t m) := by show _ = _; rw [hr]; exact HE.out
      have HKM : Hid (((k + 1 : Nat) : Int) = m) := by show _ = _; have := HK.out; omega
      by_cases hyes : 0 < r ∧ r % m = 0
      · obtain ⟨hr0, hmod⟩ := hyes
        have hq0' : 0 ≤ r / m := Int.ediv_nonneg (by omega) (by omega)
        have hq1' : r / m ≤ 1000000 := Int.le_trans (Int.ediv_le_self _ (by omega)) (by omega)
        have hy := bd_mulR (x := t) (y := m - 1) (X := 2) (Y := 2000) (by omega) ht2 (by omega) (by omega)
        obtain ⟨hy0, hy1⟩ := hy
        have HL : Hid (prR (runs s t (k + 1)) = [r / m, r / m + t * (m - 1)] :: prR (runs s t k)) := by
          show _ = _
          have hb : runB s t (k + 1) = true := by
            rw [runB_iff, HKM.out, ← HRR.out]
            refine ⟨?_, hmod⟩
            have h3 := Int.emod_add_mul_ediv r m
            rw [hmod, Int.zero_add] at h3
            have h4 : 1 ≤ r / m := by
              by_cases h5 : r / m = 0
              · rw [h5, Int.mul_zero] at h3; omega
              · omega
            have h6 : m * 1 ≤ m * (r / m) := Int.mul_le_mul_of_nonneg_left h4 (by omega)
            omega
          rw [runs_yes s t k hk1 hb]
          unfold runP prR
          rw [HKM.out, ← HRR.out]
          rfl
        subst hr
        go_wp2_with (at_builtin; refine wpList_append_front wr _ _ rfl _ _ rfl w.heap.size (prR (runs s t k)) _ HO.out rfl rfl hlen (by omega) ?_; intro v1 w6 hr6 hb6)
        go_roundg (gk - 1)
        case measure => omega
        case rel =>
          refine ⟨k + 1, m + 1, rfl, ?_, by omega, hmm, by omega, .inr ⟨?_, ?_⟩, hb.trans hb6⟩
          · show _ = _
            have := HKM.out; omega
          · rw [HL.out]; simp
          · rw [HL.out]; exact hr6
      · have HL : Hid (prR (runs s t (k + 1)) = prR (runs s t k)) := by
          show _ = _
          have hb : runB s t (k + 1) = false := by
            rw [Bool.eq_false_iff, ne_eq, runB_iff, HKM.out, ← HRR.out]
            exact fun h => hyes ⟨by omega, h.2⟩
          rw [runs_no s t k hk1 hb]
        have hrel' : Hid (∃ (k' : Nat) (m' : Int), Value.int .i64 (m + 1) = .int .i64 m' ∧ Hid (m' = (k' : Int) + 1) ∧ 2 ≤ m' ∧ m' ≤ 1501 ∧ k' + (gk - 1) = 2001 ∧ Hid ((prR (runs s t k') = [] ∧ u5 = .slice none 0 0) ∨ (prR (runs s t k') ≠ [] ∧ Rws w.heap.size (prR (runs s t k')) u5 wr)) ∧ Below w.heap.size w wr) := by
          refine ⟨k + 1, m + 1, rfl, ?_, by omega, hmm, by omega, ?_, hb⟩
          · show _ = _
            have := HKM.out; omega
          · rw [HL.out]; exact HO.out
        by_cases hr0 : 0 < r
        · obtain ⟨z, hz⟩ : ∃ z, r % m = z := ⟨_, rfl⟩
          have hz0 : (r % m == 0) = false := by
            rw [beq_eq_false_iff_ne]
            exact fun h => hyes ⟨hr0, h⟩
          have hz1 : ¬ r % m = 0 := fun h => hyes ⟨hr0, h⟩
          clear hz hyes
          subst hr
          go_wp2
          go_roundg (gk - 1)
          case measure => omega
          case rel => exact hrel'.out
        · clear hyes
          subst hr
          go_wp2
          go_roundg (gk - 1)
          case measure => omega
          case rel => exact hrel'.out
    · have HX : Hid (ansR s t = runs s t k) := by
        refine ansR_of HS.out k (by have := HK.out; omega) (fun j hj h => hc ?_) hk1
        have e1 := rst_need HT.out (by omega) h
        have e2 := sq_le (show 0 ≤ m by omega) (show m ≤ (j : Int) by have := HK.out; omega)
        have e3 : (j : Int) * ((j : Int) + 1) = (j : Int) * j + j := by grind
        have e4 : m * (m + 1) = m * m + m := by grind
        have := HK.out
        omega
      go_wp2
      go_ret
      refine ⟨⟨_, rfl, ?_⟩, hb⟩
      rw [HX.out]
      rcases HO.out with ⟨e1, e2⟩ | ⟨_, e2⟩
      · rw [e1, e2]; exact Rws.nil _ _
      · exact e2

theorem iRuns_any (s t : Int) (w : World) (ht : t = 1 ∨ t = 2) :
    Calls Try.prog 61 #[.int .i64 s, .int .i64 t] w fun e w' => (∃ v : Value, e = .returned (.tuple #[v, .bool (houB s)]) ∧ Rws w.heap.size (prR (ansR s t)) v w') ∧ Below w.heap.size w w' := by
  cases h : houB s with
  | true => exact iRuns_yes s t w h ht
  | false =>
    have HX := Lib.hid (ansR_no (t := t) h)
    clear ht
    go_enter Try.func61, Try.ntmps61
    go_wp2_with (go_at_call 62; refine (isRunSum_any _ _).mono ?_; rintro e w' ⟨rfl, rfl⟩)
    go_ret2
    exact ⟨⟨_, rfl, by rw [HX.out]; exact Rws.nil _ _⟩, Below.refl _ _⟩

theorem sRs_any (s : Int) (w : World) :
    Calls Try.prog 30 #[.int .i64 s] w fun e w' => (∃ (xs : List (Int × Int)) (v : Value), e = .returned (.tuple #[v, .bool (houB s)]) ∧ xs = ansR s 1 ∧ Rws w.heap.size (prR xs) v w') ∧ Below w.heap.size w w' := by
  cases h : houB s with
  | true =>
    have HH := Lib.hid h
    go_enter Try.func30, Try.ntmps30
    go_wp2_with (first | (go_at_call 59; refine (hoAsked_any _ _).mono ?_; rintro e w' ⟨rfl, rfl⟩) | (go_at_call 60; refine (sRuns_any s 1 _ HH.out (by decide)).mono ?_; rintro e w1 ⟨⟨v, rfl, hr⟩, b1⟩; have HR := Lib.hid hr; clear hr))
    go_ret2
    exact ⟨⟨_, v, rfl, rfl, HR.out⟩, b1⟩
  | false =>
    have HX := Lib.hid (ansR_no (t := 1) h)
    go_enter Try.func30, Try.ntmps30
    go_wp2_with (go_at_call 59; refine (hoAsked_any _ _).mono ?_; rintro e w' ⟨rfl, rfl⟩)
    go_ret2
    exact ⟨⟨_, _, rfl, rfl, by rw [HX.out]; exact Rws.nil _ _⟩, Below.refl _ _⟩
theorem iRs_any (s : Int) (w : World) :
    Calls Try.prog 31 #[.int .i64 s] w fun e w' => (∃ (xs : List (Int × Int)) (v : Value), e = .returned (.tuple #[v, .bool (houB s)]) ∧ xs = ansR s 1 ∧ Rws w.heap.size (prR xs) v w') ∧ Below w.heap.size w w' := by
  go_enter Try.func31, Try.ntmps31
  go_wp2_with (go_at_call 61; refine (iRuns_any s 1 _ (by decide)).mono ?_; rintro e w1 ⟨⟨v, rfl, hr⟩, b1⟩; have HR := Lib.hid hr; clear hr)
  go_ret2
  exact ⟨⟨_, v, rfl, rfl, HR.out⟩, b1⟩
set_option maxHeartbeats 1000000 in
theorem FnExactRunsWithSum_law (s : Int) (_h0 : (Lit.int .i64 s).wf = true) (w : World) :
    Calls Try.prog 9 #[.int .i64 s] w fun e w' => e = .returned (.bool true) ∧ Below w.heap.size w w' := by
  go_enter Try.func9, Try.ntmps9
  go_wp2_with fail
  refine (sRs_any s _).mono ?_
  rintro e w1 ⟨⟨xs, v0, rfl, ha, r0⟩, b1⟩
  have HA := Lib.hid ha
  obtain ⟨qs, hqs, i0⟩ := r0
  have HQ := Lib.hid hqs
  have hl1 : (prR xs).length ≤ 1000000 := by rw [prR_len]; have := ansR_len s 1; rw [HA.out]; omega
  clear ha hqs
  go_wp2_with fail
  refine (iRs_any s _).mono ?_
  rintro e w2 ⟨⟨ys, g0, rfl, hb, q0⟩, b2⟩
  obtain rfl : ys = xs := (hb).trans (HA.out).symm
  obtain ⟨ps, hps, j0⟩ := q0
  have HP := Lib.hid hps
  have HN : Hid (ps.length ≤ 1000000) := by
    show _ ≤ _
    have := congrArg List.length HP.out
    rw [List.length_map] at this; omega
  have HW : Hid (∀ i (hi : i < ps.length), ps[i].2.length ≤ 1000) := by
    intro i hi
    have : ps[i].2 ∈ prR ys := by rw [← HP.out]; exact List.mem_map.2 ⟨_, List.getElem_mem hi, rfl⟩
    rw [prR_wide _ _ this]; omega
  have i1 := i0.below b2
  clear hb hps
  go_wp2_with fail
  refine (eqSS_any _ _ ps qs _ _ _ HN.out HW.out (HP.out.trans HQ.out.symm) j0 i1).mono ?_
  rintro e w' ⟨rfl, q, rfl⟩
  go_wp2_with fail
  refine (markSS_any w1.heap.size ps g0 _ HN.out HW.out (j0.drewN q)).mono ?_
  rintro e w3 ⟨rfl, k0, b3⟩
  have i3 := (i1.drewN q).apart i0.own_lt i0.row_lt b3
  have htt : tot ps ≤ 1000000000 := Nat.le_trans (tot_le ps 1000 HW.out) (Nat.mul_le_mul_right 1000 HN.out)
  have hneg : ¬ 1 + (tot ps : Int) < 0 := by omega
  go_wp2_with fail
  refine (heldSS_any w1.heap.size ps g0 _ HN.out HW.out k0).mono ?_
  rintro e w' ⟨rfl, rfl⟩
  go_wp2_with fail
  refine (iRs_any s _).mono ?_
  rintro e w4 ⟨⟨zs, h0, rfl, hb, l0⟩, b4⟩
  obtain rfl : zs = ys := (hb).trans (HA.out).symm
  obtain ⟨rs, hrs, l0⟩ := l0
  have HR := Lib.hid hrs
  have HN2 : Hid (rs.length ≤ 1000000) := by
    show _ ≤ _
    have := congrArg List.length HR.out
    rw [List.length_map] at this; omega
  have HW2 : Hid (∀ i (hi : i < rs.length), rs[i].2.length ≤ 1000) := by
    intro i hi
    have : rs[i].2 ∈ prR zs := by rw [← HR.out]; exact List.mem_map.2 ⟨_, List.getElem_mem hi, rfl⟩
    rw [prR_wide _ _ this]; omega
  have i4 := i3.below b4
  have k4 := k0.below b4
  clear hb hrs
  go_wp2_with fail
  refine (eqSS_any _ _ rs qs _ _ _ HN2.out HW2.out (HR.out.trans HQ.out.symm) l0 i4).mono ?_
  rintro e w' ⟨rfl, q2, rfl⟩
  go_wp2_with fail
  refine (heldSS_any w1.heap.size ps g0 _ HN.out HW.out (k4.drewN q2)).mono ?_
  rintro e w' ⟨rfl, rfl⟩
  go_wp2_with fail
  go_ret
  have s1 := b1.size
  have s2 := b2.size
  have s3 : w2.heap.size ≤ w3.heap.size := b3.size
  exact ⟨rfl, below_drewN (((below_drewN (b1.trans (b2.mono s1)) q).trans (b3.mono s1)).trans (b4.mono (by omega))) q2⟩

theorem sRo_any (s : Int) (w : World) :
    Calls Try.prog 36 #[.int .i64 s] w fun e w' => (∃ (xs : List (Int × Int)) (v : Value), e = .returned (.tuple #[v, .bool (houB s)]) ∧ xs = ansR s 2 ∧ Rws w.heap.size (prR xs) v w') ∧ Below w.heap.size w w' := by
  cases h : houB s with
  | true =>
    have HH := Lib.hid h
    go_enter Try.func36, Try.ntmps36
    go_wp2_with (first | (go_at_call 59; refine (hoAsked_any _ _).mono ?_; rintro e w' ⟨rfl, rfl⟩) | (go_at_call 60; refine (sRuns_any s 2 _ HH.out (by decide)).mono ?_; rintro e w1 ⟨⟨v, rfl, hr⟩, b1⟩; have HR := Lib.hid hr; clear hr))
    go_ret2
    exact ⟨⟨_, v, rfl, rfl, HR.out⟩, b1⟩
  | false =>
    have HX := Lib.hid (ansR_no (t := 2) h)
    go_enter Try.func36, Try.ntmps36
    go_wp2_with (go_at_call 59; refine (hoAsked_any _ _).mono ?_; rintro e w' ⟨rfl, rfl⟩)
    go_ret2
    exact ⟨⟨_, _, rfl, rfl, by rw [HX.out]; exact Rws.nil _ _⟩, Below.refl _ _⟩
theorem iRo_any (s : Int) (w : World) :
    Calls Try.prog 37 #[.int .i64 s] w fun e w' => (∃ (xs : List (Int × Int)) (v : Value), e = .returned (.tuple #[v, .bool (houB s)]) ∧ xs = ansR s 2 ∧ Rws w.heap.size (prR xs) v w') ∧ Below w.heap.size w w' := by
  go_enter Try.func37, Try.ntmps37
  go_wp2_with (go_at_call 61; refine (iRuns_any s 2 _ (by decide)).mono ?_; rintro e w1 ⟨⟨v, rfl, hr⟩, b1⟩; have HR := Lib.hid hr; clear hr)
  go_ret2
  exact ⟨⟨_, v, rfl, rfl, HR.out⟩, b1⟩
set_option maxHeartbeats 1000000 in
theorem FnExactRunsOnSide_law (s : Int) (_h0 : (Lit.int .i64 s).wf = true) (w : World) :
    Calls Try.prog 12 #[.int .i64 s] w fun e w' => e = .returned (.bool true) ∧ Below w.heap.size w w' := by
  go_enter Try.func12, Try.ntmps12
  go_wp2_with fail
  refine (sRo_any s _).mono ?_
  rintro e w1 ⟨⟨xs, v0, rfl, ha, r0⟩, b1⟩
  have HA := Lib.hid ha
  obtain ⟨qs, hqs, i0⟩ := r0
  have HQ := Lib.hid hqs
  have hl1 : (prR xs).length ≤ 1000000 := by rw [prR_len]; have := ansR_len s 2; rw [HA.out]; omega
  clear ha hqs
  go_wp2_with fail
  refine (iRo_any s _).mono ?_
  rintro e w2 ⟨⟨ys, g0, rfl, hb, q0⟩, b2⟩
  obtain rfl : ys = xs := (hb).trans (HA.out).symm
  obtain ⟨ps, hps, j0⟩ := q0
  have HP := Lib.hid hps
  have HN : Hid (ps.length ≤ 1000000) := by
    show _ ≤ _
    have := congrArg List.length HP.out
    rw [List.length_map] at this; omega
  have HW : Hid (∀ i (hi : i < ps.length), ps[i].2.length ≤ 1000) := by
    intro i hi
    have : ps[i].2 ∈ prR ys := by rw [← HP.out]; exact List.mem_map.2 ⟨_, List.getElem_mem hi, rfl⟩
    rw [prR_wide _ _ this]; omega
  have i1 := i0.below b2
  clear hb hps
  go_wp2_with fail
  refine (eqSS_any _ _ ps qs _ _ _ HN.out HW.out (HP.out.trans HQ.out.symm) j0 i1).mono ?_
  rintro e w' ⟨rfl, q, rfl⟩
  go_wp2_with fail
  refine (markSS_any w1.heap.size ps g0 _ HN.out HW.out (j0.drewN q)).mono ?_
  rintro e w3 ⟨rfl, k0, b3⟩
  have i3 := (i1.drewN q).apart i0.own_lt i0.row_lt b3
  have htt : tot ps ≤ 1000000000 := Nat.le_trans (tot_le ps 1000 HW.out) (Nat.mul_le_mul_right 1000 HN.out)
  have hneg : ¬ 1 + (tot ps : Int) < 0 := by omega
  go_wp2_with fail
  refine (heldSS_any w1.heap.size ps g0 _ HN.out HW.out k0).mono ?_
  rintro e w' ⟨rfl, rfl⟩
  go_wp2_with fail
  refine (iRo_any s _).mono ?_
  rintro e w4 ⟨⟨zs, h0, rfl, hb, l0⟩, b4⟩
  obtain rfl : zs = ys := (hb).trans (HA.out).symm
  obtain ⟨rs, hrs, l0⟩ := l0
  have HR := Lib.hid hrs
  have HN2 : Hid (rs.length ≤ 1000000) := by
    show _ ≤ _
    have := congrArg List.length HR.out
    rw [List.length_map] at this; omega
  have HW2 : Hid (∀ i (hi : i < rs.length), rs[i].2.length ≤ 1000) := by
    intro i hi
    have : rs[i].2 ∈ prR zs := by rw [← HR.out]; exact List.mem_map.2 ⟨_, List.getElem_mem hi, rfl⟩
    rw [prR_wide _ _ this]; omega
  have i4 := i3.below b4
  have k4 := k0.below b4
  clear hb hrs
  go_wp2_with fail
  refine (eqSS_any _ _ rs qs _ _ _ HN2.out HW2.out (HR.out.trans HQ.out.symm) l0 i4).mono ?_
  rintro e w' ⟨rfl, q2, rfl⟩
  go_wp2_with fail
  refine (heldSS_any w1.heap.size ps g0 _ HN.out HW.out (k4.drewN q2)).mono ?_
  rintro e w' ⟨rfl, rfl⟩
  go_wp2_with fail
  go_ret
  have s1 := b1.size
  have s2 := b2.size
  have s3 : w2.heap.size ≤ w3.heap.size := b3.size
  exact ⟨rfl, below_drewN (((below_drewN (b1.trans (b2.mono s1)) q).trans (b3.mono s1)).trans (b4.mono (by omega))) q2⟩

theorem sCr_any (s : Int) (w : World) :
    Calls Try.prog 32 #[.int .i64 s] w fun e w' => e = .returned (.tuple #[.int .i64 ((ansR s 1).length : Int), .bool (houB s)]) ∧ Below w.heap.size w w' := by
  obtain ⟨n, hn⟩ : ∃ n, n = (ansR s 1).length := ⟨_, rfl⟩
  have HN := Lib.hid hn
  rw [← hn]
  clear hn
  cases h : houB s with
  | true =>
    have HH := Lib.hid h
    go_enter Try.func32, Try.ntmps32
    go_wp2_with (go_at_call 59; refine (hoAsked_any _ _).mono ?_; rintro e w' ⟨rfl, rfl⟩)
    refine (sRuns_any s 1 _ HH.out (by decide)).mono ?_
    rintro e w1 ⟨⟨v, rfl, hr⟩, b1⟩
    obtain ⟨ao, cap, rfl⟩ := hr.len
    clear hr
    rw [prR_len, ← HN.out]
    go_wp2
    go_ret2
    exact ⟨rfl, b1⟩
  | false =>
    have HX : Hid (n = 0) := by show _ = _; rw [HN.out, ansR_no h]; rfl
    go_enter Try.func32, Try.ntmps32
    go_wp2_with (go_at_call 59; refine (hoAsked_any _ _).mono ?_; rintro e w' ⟨rfl, rfl⟩)
    go_ret2
    exact ⟨ret_ib (by rw [HX.out]; rfl) rfl, Below.refl _ _⟩
theorem iCr_any (s : Int) (w : World) :
    Calls Try.prog 33 #[.int .i64 s] w fun e w' => e = .returned (.tuple #[.int .i64 ((ansR s 1).length : Int), .bool (houB s)]) ∧ Below w.heap.size w w' := by
  obtain ⟨n, hn⟩ : ∃ n, n = (ansR s 1).length := ⟨_, rfl⟩
  have HN := Lib.hid hn
  rw [← hn]
  clear hn
  go_enter Try.func33, Try.ntmps33
  go_wp2_with fail
  refine (iRs_any s _).mono ?_
  rintro e w1 ⟨⟨xs, v, rfl, hx, hr⟩, b1⟩
  obtain ⟨ao, cap, rfl⟩ := hr.len
  subst hx
  clear hr
  rw [prR_len, ← HN.out]
  go_wp2
  go_ret2
  exact ⟨rfl, b1⟩
theorem FnExactCountRuns_law (s : Int) (_h0 : (Lit.int .i64 s).wf = true) (w : World) :
    Calls Try.prog 10 #[.int .i64 s] w fun e w' => e = .returned (.bool true) ∧ Below w.heap.size w w' := by
  go_enter Try.func10, Try.ntmps10
  go_wp2_with (first | (go_at_call 32; go_must ((with_reducible refine (sCr_any _ _).mono ?_); rintro e w0 ⟨rfl, b0⟩)) | (go_at_call 33; go_must ((with_reducible refine (iCr_any _ _).mono ?_); rintro e w1 ⟨rfl, b1⟩)))
  go_ret
  exact ⟨rfl, chain b0 b1⟩
end Go.Proofs.Ytjjegpoimnkknaa
