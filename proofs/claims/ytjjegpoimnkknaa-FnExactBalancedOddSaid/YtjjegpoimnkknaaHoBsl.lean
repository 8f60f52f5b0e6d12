/-
  The laws of BalancedStreets and BalancedOdd.
-/
import Derived.Test.YtjjegpoimnkknaaHoBs
import Derived.Test.YtjjegpoimnkknaaHoRw3
namespace Go.Proofs.Ytjjegpoimnkknaa
open Go.RowKit

theorem sol1_le {h l : Int} (h1 : 1 ≤ l) (hs : Sol1 h l) : h ≤ l := by
  unfold Sol1 at hs
  have e : l * 1 ≤ l * l := Int.mul_le_mul_of_nonneg_left h1 (by omega)
  exact le_of_sq (by omega) (by omega)
theorem sol2_le {h l : Int} (h1 : 1 ≤ l) (hs : Sol2 h l) : h ≤ l := by
  unfold Sol2 at hs
  have e := sq_nn (l - 1)
  have e2 : (l - 1) * (l - 1) = l * l - 2 * l + 1 := by grind
  exact le_of_sq (by omega) (by omega)
theorem upTo_s1 : SolS 1 = Sol1 := by funext h l; exact propext (solS1 h l)
theorem upTo_s2 : SolS 2 = Sol2 := by funext h l; exact propext (solS2 h l)
/-- What both sides answer at steps of s. -/
def AnsB (s m : Int) (xs : List (Int × Int)) : Prop := (houB m = true → UpTo (SolS s) xs (m + 1)) ∧ (houB m = false → xs = [])
theorem AnsB.uniq {s m : Int} {xs ys : List (Int × Int)} (a : AnsB s m xs) (b : AnsB s m ys) : xs = ys := by
  cases h : houB m with
  | true => exact (a.1 h).uniq (b.1 h)
  | false => rw [a.2 h, b.2 h]
theorem AnsB.len {s m : Int} {xs : List (Int × Int)} (a : AnsB s m xs) : xs.length ≤ 1000000 := by
  cases h : houB m with
  | true =>
    have h2 := (houB_iff m).1 h
    have := upTo_len (a.1 h) (by omega)
    omega
  | false => rw [a.2 h]; simp
theorem bfo_any (m s : Int) (w : World) (hs : s = 1 ∨ s = 2) :
    Calls Try.prog 51 #[.int .i64 m, .int .i64 s] w fun e w' => (∃ (xs : List (Int × Int)) (v : Value), e = .returned (.tuple #[v, .bool (houB m)]) ∧ AnsB s m xs ∧ Rws w.heap.size (prR xs) v w') ∧ Below w.heap.size w w' := by
  cases h : houB m with
  | true =>
    refine (bfo_yes m s w h hs).mono ?_
    rintro e w' ⟨⟨xs, v, rfl, h1, h2⟩, h3⟩
    exact ⟨⟨xs, v, rfl, ⟨fun _ => h1, fun k => by rw [h] at k; cases k⟩, h2⟩, h3⟩
  | false =>
    refine (bfo_no m s w h).mono ?_
    rintro e w' ⟨rfl, h3⟩
    exact ⟨⟨[], _, rfl, ⟨fun k => by (rw [h] at k; cases k), fun _ => rfl⟩, Rws.nil _ _⟩, h3⟩

set_option maxHeartbeats 1000000 in
theorem sBs_yes (m : Int) (w : World) (hm : houB m = true) :
    Calls Try.prog 17 #[.int .i64 m] w fun e w' => (∃ (xs : List (Int × Int)) (v : Value), e = .returned (.tuple #[v, .bool true]) ∧ UpTo Sol1 xs (m + 1) ∧ Rws w.heap.size (prR xs) v w') ∧ Below w.heap.size w w' := by
  obtain ⟨hm1, hm2⟩ := (houB_iff m).1 hm
  go_enter Try.func17, Try.ntmps17
  go_wp2_with (go_at_call 50; refine (hoMost_any _ _).mono ?_; rintro e w' ⟨rfl, rfl⟩)
  go_loopw [4, 5, 6] (fun o hv lv wr => ∃ (h l : Int) (xs : List (Int × Int)), hv = .int .i64 h ∧ lv = .int .i64 l ∧ 1 ≤ h ∧ h ≤ 10000000 ∧ 1 ≤ l ∧ l ≤ 10000000 ∧ Hid (Sol1 h l ∧ UpTo Sol1 xs l ∧ ∀ p, p ∈ xs → p.2 ≤ m) ∧ Hid (Rws w.heap.size (prR xs) o wr) ∧ Below w.heap.size w wr) (fun _ _ lv _ => (10000001 - intOf lv).toNat)
  case atStart => exact ⟨1, 1, [], rfl, rfl, by omega, by omega, by omega, by omega, (⟨first1, UpTo.nil _, fun p hp => by simp at hp⟩ : Sol1 1 1 ∧ UpTo Sol1 [] 1 ∧ ∀ p : Int × Int, p ∈ [] → p.2 ≤ m), Rws.nil _ _, Below.refl _ _⟩
  case round =>
    obtain ⟨h, l, xs, rfl, rfl, hh1, hh2, hl1, hl2, HS, HR, hb⟩ := hrel
    have hbs := hb.size
    by_cases hle : l ≤ m
    · have hhl := sol1_le hl1 HS.out.1
      have ha0 : (prR xs).length ≤ 1000000 := by
        rw [prR_len]
        have := upTo_len HS.out.2.1 hl1
        omega
      go_wp2_with (at_builtin; refine wpList_append_two wr h l rfl _ _ rfl w.heap.size (prR xs) _ rfl HR.out rfl ha0 (by omega) ?_; intro v1 w6 hr6 hb6)
      go_roundw
      case rel =>
        refine ⟨3 * h + 2 * l + 1, 4 * h + 3 * l + 1, xs ++ [(h, l)], rfl, rfl, by omega, by omega, by omega, by omega, ?_, ?_, hb.trans hb6⟩
        · show _ ∧ _ ∧ _
          refine ⟨next1 HS.out.1, up1_next HS.out.2.1 hh1 hl1 HS.out.1, fun p hp => ?_⟩
          rw [List.mem_append, List.mem_singleton] at hp
          rcases hp with hp | rfl
          · exact HS.out.2.2 p hp
          · exact hle
        · show Rws _ _ _ _
          rw [prR_snoc]; exact hr6
      case measure => simp [intOf]; omega
    · go_wp2
      go_ret2
      exact ⟨⟨xs, _, rfl, HS.out.2.1.cut (by omega) (fun p hp => by have := HS.out.2.2 p hp; omega), HR.out⟩, hb⟩
theorem sBs_any (m : Int) (w : World) :
    Calls Try.prog 17 #[.int .i64 m] w fun e w' => (∃ (xs : List (Int × Int)) (v : Value), e = .returned (.tuple #[v, .bool (houB m)]) ∧ AnsB 1 m xs ∧ Rws w.heap.size (prR xs) v w') ∧ Below w.heap.size w w' := by
  cases h : houB m with
  | true =>
    refine (sBs_yes m w h).mono ?_
    rintro e w' ⟨⟨xs, v, rfl, h1, h2⟩, h3⟩
    exact ⟨⟨xs, v, rfl, ⟨fun _ => by rw [upTo_s1]; exact h1, fun k => by rw [h] at k; cases k⟩, h2⟩, h3⟩
  | false =>
    go_enter Try.func17, Try.ntmps17
    go_wp2_with (go_at_call 50; refine (hoMost_any _ _).mono ?_; rintro e w' ⟨rfl, rfl⟩)
    go_ret2
    exact ⟨⟨[], _, rfl, ⟨fun k => by (rw [h] at k; cases k), fun _ => rfl⟩, Rws.nil _ _⟩, Below.refl _ _⟩
theorem iBs_any (m : Int) (w : World) :
    Calls Try.prog 18 #[.int .i64 m] w fun e w' => (∃ (xs : List (Int × Int)) (v : Value), e = .returned (.tuple #[v, .bool (houB m)]) ∧ AnsB 1 m xs ∧ Rws w.heap.size (prR xs) v w') ∧ Below w.heap.size w w' := by
  go_enter Try.func18, Try.ntmps18
  go_wp2_with (go_at_call 51; refine (bfo_any m 1 _ (by decide)).mono ?_; rintro e w1 ⟨⟨xs, v, rfl, ha, hr⟩, b1⟩)
  go_ret2
  exact ⟨⟨xs, v, rfl, ha, hr⟩, b1⟩
set_option maxHeartbeats 1000000 in
theorem FnExactBalancedStreets_law (m : Int) (_h0 : (Lit.int .i64 m).wf = true) (w : World) :
    Calls Try.prog 4 #[.int .i64 m] w fun e w' => e = .returned (.bool true) ∧ Below w.heap.size w w' := by
  go_enter Try.func4, Try.ntmps4
  go_wp2_with fail
  refine (sBs_any m _).mono ?_
  rintro e w1 ⟨⟨xs, v0, rfl, ha, r0⟩, b1⟩
  have HA := Lib.hid ha
  obtain ⟨qs, hqs, i0⟩ := r0
  have HQ := Lib.hid hqs
  have hl1 : (prR xs).length ≤ 1000000 := by rw [prR_len]; exact HA.out.len
  clear ha hqs
  go_wp2_with fail
  refine (iBs_any m _).mono ?_
  rintro e w2 ⟨⟨ys, g0, rfl, hb, q0⟩, b2⟩
  obtain rfl : ys = xs := AnsB.uniq hb HA.out
  obtain ⟨ps, hps, j0⟩ := q0
  have HP := Lib.hid hps
  have HN : Hid (ps.length ≤ 1000000) := by
    show _ ≤ _
    have := congrArg List.length HP.out
    rw [List.length_map] at this; omega
  have HW : Hid (∀ i (hi : i < ps.length), ps[i].2.length ≤ 1000) := by
    intro i hi
    have : ps[i].2 ∈ prR ys := by rw [← HP.out]; exact List.mem_map.2 ⟨_, List.getElem_mem hi, rfl⟩
    rw [prR_wide _ _ this]; omega
  have i1 := i0.below b2
  clear hb hps
  go_wp2_with fail
  refine (eqSS_any _ _ ps qs _ _ _ HN.out HW.out (HP.out.trans HQ.out.symm) j0 i1).mono ?_
  rintro e w' ⟨rfl, q, rfl⟩
  go_wp2_with fail
  refine (markSS_any w1.heap.size ps g0 _ HN.out HW.out (j0.drewN q)).mono ?_
  rintro e w3 ⟨rfl, k0, b3⟩
  have i3 := (i1.drewN q).apart i0.own_lt i0.row_lt b3
  have htt : tot ps ≤ 1000000000 := Nat.le_trans (tot_le ps 1000 HW.out) (Nat.mul_le_mul_right 1000 HN.out)
  have hneg : ¬ 1 + (tot ps : Int) < 0 := by omega
  go_wp2_with fail
  refine (heldSS_any w1.heap.size ps g0 _ HN.out HW.out k0).mono ?_
  rintro e w' ⟨rfl, rfl⟩
  go_wp2_with fail
  refine (iBs_any m _).mono ?_
  rintro e w4 ⟨⟨zs, h0, rfl, hb, l0⟩, b4⟩
  obtain rfl : zs = ys := AnsB.uniq hb HA.out
  obtain ⟨rs, hrs, l0⟩ := l0
  have HR := Lib.hid hrs
  have HN2 : Hid (rs.length ≤ 1000000) := by
    show _ ≤ _
    have := congrArg List.length HR.out
    rw [List.length_map] at this; omega
  have HW2 : Hid (∀ i (hi : i < rs.length), rs[i].2.length ≤ 1000) := by
    intro i hi
    have : rs[i].2 ∈ prR zs := by rw [← HR.out]; exact List.mem_map.2 ⟨_, List.getElem_mem hi, rfl⟩
    rw [prR_wide _ _ this]; omega
  have i4 := i3.below b4
  have k4 := k0.below b4
  clear hb hrs
  go_wp2_with fail
  refine (eqSS_any _ _ rs qs _ _ _ HN2.out HW2.out (HR.out.trans HQ.out.symm) l0 i4).mono ?_
  rintro e w' ⟨rfl, q2, rfl⟩
  go_wp2_with fail
  refine (heldSS_any w1.heap.size ps g0 _ HN.out HW.out (k4.drewN q2)).mono ?_
  rintro e w' ⟨rfl, rfl⟩
  go_wp2_with fail
  go_ret
  have s1 := b1.size
  have s2 := b2.size
  have s3 : w2.heap.size ≤ w3.heap.size := b3.size
  exact ⟨rfl, below_drewN (((below_drewN (b1.trans (b2.mono s1)) q).trans (b3.mono s1)).trans (b4.mono (by omega))) q2⟩

set_option maxHeartbeats 1000000 in
theorem sBo_yes (m : Int) (w : World) (hm : houB m = true) :
    Calls Try.prog 22 #[.int .i64 m] w fun e w' => (∃ (xs : List (Int × Int)) (v : Value), e = .returned (.tuple #[v, .bool true]) ∧ UpTo Sol2 xs (m + 1) ∧ Rws w.heap.size (prR xs) v w') ∧ Below w.heap.size w w' := by
  obtain ⟨hm1, hm2⟩ := (houB_iff m).1 hm
  go_enter Try.func22, Try.ntmps22
  go_wp2_with (go_at_call 50; refine (hoMost_any _ _).mono ?_; rintro e w' ⟨rfl, rfl⟩)
  go_loopw [4, 5, 6] (fun o hv lv wr => ∃ (h l : Int) (xs : List (Int × Int)), hv = .int .i64 h ∧ lv = .int .i64 l ∧ 1 ≤ h ∧ h ≤ 10000000 ∧ 1 ≤ l ∧ l ≤ 10000000 ∧ Hid (Sol2 h l ∧ UpTo Sol2 xs l ∧ ∀ p, p ∈ xs → p.2 ≤ m) ∧ Hid (Rws w.heap.size (prR xs) o wr) ∧ Below w.heap.size w wr) (fun _ _ lv _ => (10000001 - intOf lv).toNat)
  case atStart => exact ⟨1, 1, [], rfl, rfl, by omega, by omega, by omega, by omega, (⟨first2, UpTo.nil _, fun p hp => by simp at hp⟩ : Sol2 1 1 ∧ UpTo Sol2 [] 1 ∧ ∀ p : Int × Int, p ∈ [] → p.2 ≤ m), Rws.nil _ _, Below.refl _ _⟩
  case round =>
    obtain ⟨h, l, xs, rfl, rfl, hh1, hh2, hl1, hl2, HS, HR, hb⟩ := hrel
    have hbs := hb.size
    by_cases hle : l ≤ m
    · have hhl := sol2_le hl1 HS.out.1
      have ha0 : (prR xs).length ≤ 1000000 := by
        rw [prR_len]
        have := upTo_len HS.out.2.1 hl1
        omega
      go_wp2_with (at_builtin; refine wpList_append_two wr h l rfl _ _ rfl w.heap.size (prR xs) _ rfl HR.out rfl ha0 (by omega) ?_; intro v1 w6 hr6 hb6)
      go_roundw
      case rel =>
        refine ⟨3 * h + 2 * l + 2, 4 * h + 3 * l + 2, xs ++ [(h, l)], rfl, rfl, by omega, by omega, by omega, by omega, ?_, ?_, hb.trans hb6⟩
        · show _ ∧ _ ∧ _
          refine ⟨next2 HS.out.1, up2_next HS.out.2.1 hh1 hl1 HS.out.1, fun p hp => ?_⟩
          rw [List.mem_append, List.mem_singleton] at hp
          rcases hp with hp | rfl
          · exact HS.out.2.2 p hp
          · exact hle
        · show Rws _ _ _ _
          rw [prR_snoc]; exact hr6
      case measure => simp [intOf]; omega
    · go_wp2
      go_ret2
      exact ⟨⟨xs, _, rfl, HS.out.2.1.cut (by omega) (fun p hp => by have := HS.out.2.2 p hp; omega), HR.out⟩, hb⟩
theorem sBo_any (m : Int) (w : World) :
    Calls Try.prog 22 #[.int .i64 m] w fun e w' => (∃ (xs : List (Int × Int)) (v : Value), e = .returned (.tuple #[v, .bool (houB m)]) ∧ AnsB 2 m xs ∧ Rws w.heap.size (prR xs) v w') ∧ Below w.heap.size w w' := by
  cases h : houB m with
  | true =>
    refine (sBo_yes m w h).mono ?_
    rintro e w' ⟨⟨xs, v, rfl, h1, h2⟩, h3⟩
    exact ⟨⟨xs, v, rfl, ⟨fun _ => by rw [upTo_s2]; exact h1, fun k => by rw [h] at k; cases k⟩, h2⟩, h3⟩
  | false =>
    go_enter Try.func22, Try.ntmps22
    go_wp2_with (go_at_call 50; refine (hoMost_any _ _).mono ?_; rintro e w' ⟨rfl, rfl⟩)
    go_ret2
    exact ⟨⟨[], _, rfl, ⟨fun k => by (rw [h] at k; cases k), fun _ => rfl⟩, Rws.nil _ _⟩, Below.refl _ _⟩
theorem iBo_any (m : Int) (w : World) :
    Calls Try.prog 23 #[.int .i64 m] w fun e w' => (∃ (xs : List (Int × Int)) (v : Value), e = .returned (.tuple #[v, .bool (houB m)]) ∧ AnsB 2 m xs ∧ Rws w.heap.size (prR xs) v w') ∧ Below w.heap.size w w' := by
  go_enter Try.func23, Try.ntmps23
  go_wp2_with (go_at_call 51; refine (bfo_any m 2 _ (by decide)).mono ?_; rintro e w1 ⟨⟨xs, v, rfl, ha, hr⟩, b1⟩)
  go_ret2
  exact ⟨⟨xs, v, rfl, ha, hr⟩, b1⟩
set_option maxHeartbeats 1000000 in
theorem FnExactBalancedOdd_law (m : Int) (_h0 : (Lit.int .i64 m).wf = true) (w : World) :
    Calls Try.prog 5 #[.int .i64 m] w fun e w' => e = .returned (.bool true) ∧ Below w.heap.size w w' := by
  go_enter Try.func5, Try.ntmps5
  go_wp2_with fail
  refine (sBo_any m _).mono ?_
  rintro e w1 ⟨⟨xs, v0, rfl, ha, r0⟩, b1⟩
  have HA := Lib.hid ha
  obtain ⟨qs, hqs, i0⟩ := r0
  have HQ := Lib.hid hqs
  have hl1 : (prR xs).length ≤ 1000000 := by rw [prR_len]; exact HA.out.len
  clear ha hqs
  go_wp2_with fail
  refine (iBo_any m _).mono ?_
  rintro e w2 ⟨⟨ys, g0, rfl, hb, q0⟩, b2⟩
  obtain rfl : ys = xs := AnsB.uniq hb HA.out
  obtain ⟨ps, hps, j0⟩ := q0
  have HP := Lib.hid hps
  have HN : Hid (ps.length ≤ 1000000) := by
    show _ ≤ _
    have := congrArg List.length HP.out
    rw [List.length_map] at this; omega
  have HW : Hid (∀ i (hi : i < ps.length), ps[i].2.length ≤ 1000) := by
    intro i hi
    have : ps[i].2 ∈ prR ys := by rw [← HP.out]; exact List.mem_map.2 ⟨_, List.getElem_mem hi, rfl⟩
    rw [prR_wide _ _ this]; omega
  have i1 := i0.below b2
  clear hb hps
  go_wp2_with fail
  refine (eqSS_any _ _ ps qs _ _ _ HN.out HW.out (HP.out.trans HQ.out.symm) j0 i1).mono ?_
  rintro e w' ⟨rfl, q, rfl⟩
  go_wp2_with fail
  refine (markSS_any w1.heap.size ps g0 _ HN.out HW.out (j0.drewN q)).mono ?_
  rintro e w3 ⟨rfl, k0, b3⟩
  have i3 := (i1.drewN q).apart i0.own_lt i0.row_lt b3
  have htt : tot ps ≤ 1000000000 := Nat.le_trans (tot_le ps 1000 HW.out) (Nat.mul_le_mul_right 1000 HN.out)
  have hneg : ¬ 1 + (tot ps : Int) < 0 := by omega
  go_wp2_with fail
  refine (heldSS_any w1.heap.size ps g0 _ HN.out HW.out k0).mono ?_
  rintro e w' ⟨rfl, rfl⟩
  go_wp2_with fail
  refine (iBo_any m _).mono ?_
  rintro e w4 ⟨⟨zs, h0, rfl, hb, l0⟩, b4⟩
  obtain rfl : zs = ys := AnsB.uniq hb HA.out
  obtain ⟨rs, hrs, l0⟩ := l0
  have HR := Lib.hid hrs
  have HN2 : Hid (rs.length ≤ 1000000) := by
    show _ ≤ _
    have := congrArg List.length HR.out
    rw [List.length_map] at this; omega
  have HW2 : Hid (∀ i (hi : i < rs.length), rs[i].2.length ≤ 1000) := by
    intro i hi
    have : rs[i].2 ∈ prR zs := by rw [← HR.out]; exact List.mem_map.2 ⟨_, List.getElem_mem hi, rfl⟩
    rw [prR_wide _ _ this]; omega
  have i4 := i3.below b4
  have k4 := k0.below b4
  clear hb hrs
  go_wp2_with fail
  refine (eqSS_any _ _ rs qs _ _ _ HN2.out HW2.out (HR.out.trans HQ.out.symm) l0 i4).mono ?_
  rintro e w' ⟨rfl, q2, rfl⟩
  go_wp2_with fail
  refine (heldSS_any w1.heap.size ps g0 _ HN.out HW.out (k4.drewN q2)).mono ?_
  rintro e w' ⟨rfl, rfl⟩
  go_wp2_with fail
  go_ret
  have s1 := b1.size
  have s2 := b2.size
  have s3 : w2.heap.size ≤ w3.heap.size := b3.size
  exact ⟨rfl, below_drewN (((below_drewN (b1.trans (b2.mono s1)) q).trans (b3.mono s1)).trans (b4.mono (by omega))) q2⟩
end Go.Proofs.Ytjjegpoimnkknaa
