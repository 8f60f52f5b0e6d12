/-
  The law of SquareStreets.
-/
import Derived.Test.YtjjegpoimnkknabHoBsl
import Derived.Test.YtjjegpoimnkknabApp
namespace Go.Proofs.Ytjjegpoimnkknab
open Go.RowKit

/-- The last houses. -/
def lst (xs : List (Int × Int)) : List Int := xs.map Prod.snd
theorem lst_len (xs : List (Int × Int)) : (lst xs).length = xs.length := by simp [lst]
theorem lst_snoc (xs : List (Int × Int)) (h l : Int) : lst (xs ++ [(h, l)]) = lst xs ++ [l] := by simp [lst]
set_option maxHeartbeats 1000000 in
theorem sSq_yes (m : Int) (w : World) (hm : houB m = true) :
    Calls Try.prog 20 #[.int .i64 m] w fun e w' => (∃ (xs : List (Int × Int)) (v : Value), e = .returned (.tuple #[v, .bool true]) ∧ UpTo Sol1 xs (m + 1) ∧ Ints w.heap.size (lst xs) v w') ∧ Below w.heap.size w w' := by
  obtain ⟨hm1, hm2⟩ := (houB_iff m).1 hm
  obtain ⟨B0, hB0⟩ : ∃ B0, B0 = w.heap.size := ⟨_, rfl⟩
  rw [← hB0]
  have HB0 := Lib.hid hB0
  clear hB0
  go_enter Try.func20, Try.ntmps20
  go_wp2_with (go_at_call 27; refine (hoMost_any _ _).mono ?_; rintro e w' ⟨rfl, rfl⟩)
  go_loopw [4, 5, 6] (fun o hv lv wr => ∃ (h l : Int) (xs : List (Int × Int)) (ys : List Int), hv = .int .i64 h ∧ lv = .int .i64 l ∧ 1 ≤ h ∧ h ≤ 10000000 ∧ 1 ≤ l ∧ l ≤ 10000000 ∧ Hid (Sol1 h l ∧ UpTo Sol1 xs l ∧ ∀ p, p ∈ xs → p.2 ≤ m) ∧ Hid (ys = lst xs) ∧ Hid (Ints B0 ys o wr) ∧ Below B0 w wr) (fun _ _ lv _ => (10000001 - intOf lv).toNat)
  case atStart => exact ⟨1, 1, [], [], rfl, rfl, by omega, by omega, by omega, by omega, (⟨first1, UpTo.nil _, fun p hp => by simp at hp⟩ : Sol1 1 1 ∧ UpTo Sol1 [] 1 ∧ ∀ p : Int × Int, p ∈ [] → p.2 ≤ m), rfl, World.ownsRow_nil _ _ _ _, Below.refl _ _⟩
  case round =>
    obtain ⟨h, y, xs, ys, rfl, rfl, hh1, hh2, hl1, hl2, HS, HY, HI, hb⟩ := hrel
    have hbs := hb.size
    have hB1 : B0 ≤ w.heap.size := by rw [HB0.out]; exact Nat.le_refl _
    by_cases hle : y ≤ m
    · have hhl := sol1_le hl1 HS.out.1
      have hyl : ys.length ≤ 1000000 := by
        rw [HY.out, lst_len]
        have := upTo_len HS.out.2.1 hl1
        omega
      go_wp2_with (at_builtin; refine wpList_append_int _ rfl _ _ rfl B0 ys _ rfl (HI.out.alloc _) _ y rfl (by simp [go_sem]) hyl (by simp; omega) ?_; intro v1 w6 hr6 hb6 _)
      go_roundw
      case rel =>
        refine ⟨3 * h + 2 * y + 1, 4 * h + 3 * y + 1, xs ++ [(h, y)], ys ++ [y], rfl, rfl, by omega, by omega, by omega, by omega, ?_, ?_, hr6, hb.trans (Below.trans ((Below.refl _ _).alloc (by omega) _) hb6)⟩
        · show _ ∧ _ ∧ _
          refine ⟨next1 HS.out.1, up1_next HS.out.2.1 hh1 hl1 HS.out.1, fun p hp => ?_⟩
          rw [List.mem_append, List.mem_singleton] at hp
          rcases hp with hp | rfl
          · exact HS.out.2.2 p hp
          · exact hle
        · show _ = _
          rw [lst_snoc, HY.out]
      case measure => simp [intOf]; omega
    · go_wp2
      go_ret2
      exact ⟨⟨xs, _, rfl, HS.out.2.1.cut (by omega) (fun p hp => by have := HS.out.2.2 p hp; omega), by rw [← HY.out]; exact HI.out⟩, hb⟩
theorem sSq_any (m : Int) (w : World) :
    Calls Try.prog 20 #[.int .i64 m] w fun e w' => (∃ (xs : List (Int × Int)) (v : Value), e = .returned (.tuple #[v, .bool (houB m)]) ∧ AnsB 1 m xs ∧ Ints w.heap.size (lst xs) v w') ∧ Below w.heap.size w w' := by
  cases h : houB m with
  | true =>
    refine (sSq_yes m w h).mono ?_
    rintro e w' ⟨⟨xs, v, rfl, h1, h2⟩, h3⟩
    exact ⟨⟨xs, v, rfl, ⟨fun _ => by rw [upTo_s1]; exact h1, fun k => by rw [h] at k; cases k⟩, h2⟩, h3⟩
  | false =>
    go_enter Try.func20, Try.ntmps20
    go_wp2_with (go_at_call 27; refine (hoMost_any _ _).mono ?_; rintro e w' ⟨rfl, rfl⟩)
    go_ret2
    exact ⟨⟨[], _, rfl, ⟨fun k => by (rw [h] at k; cases k), fun _ => rfl⟩, World.ownsRow_nil _ _ _ _⟩, Below.refl _ _⟩
set_option maxHeartbeats 1000000 in
theorem iSq_any (m : Int) (w : World) :
    Calls Try.prog 21 #[.int .i64 m] w fun e w' => (∃ (xs : List (Int × Int)) (v : Value), e = .returned (.tuple #[v, .bool (houB m)]) ∧ AnsB 1 m xs ∧ Ints w.heap.size (lst xs) v w') ∧ Below w.heap.size w w' := by
  go_enter Try.func21, Try.ntmps21
  go_wp2_with fail
  refine (iBs_any m _).mono ?_
  rintro e w1 ⟨⟨xs, v, rfl, ha, hr⟩, b1⟩
  have HA := Lib.hid ha
  obtain ⟨ps, hps, hr⟩ := hr
  have HP := Lib.hid hps
  obtain ⟨n, hnn⟩ : ∃ n, n = xs.length := ⟨_, rfl⟩
  have hpl : ps.length = n := by
    have := congrArg List.length hps
    rw [List.length_map, prR_len] at this; omega
  have HN := Lib.hid hnn
  have hn6 : n ≤ 1000000 := by rw [hnn]; exact ha.len
  have hb1s := b1.size
  have HB1 := Lib.hid b1
  obtain ⟨B0, hB0⟩ : ∃ B0, B0 = w1.heap.size := ⟨_, rfl⟩
  have HB0 := Lib.hid hB0
  have HF : Hid (∃ ao cap, v = .slice ao n cap ∧ ∀ k, k < n → ∃ (g q : Nat), ao = some ⟨g, 0, none⟩ ∧ g < B0 ∧ q < B0 ∧ w1.cell? ⟨g, k, none⟩ = some (.slice (some ⟨q, 0, none⟩) 2 2) ∧ w1.cell? ⟨q, 1, none⟩ = some (.int .i64 ((lst xs).getD k 0))) := by
    rcases hr.form with ⟨ao, cap, hv, h0⟩ | ⟨g, cap, hv, _, hg, hc⟩
    · exact ⟨ao, cap, by rw [hv, hpl], fun k hk => by omega⟩
    · refine ⟨some ⟨g, 0, none⟩, cap, by rw [hv, hpl], fun k hk => ?_⟩
      have hkp : k < ps.length := by omega
      have hkx : k < xs.length := by omega
      have e2 : ps[k].2 = [xs[k].1, xs[k].2] := by
        have h := congrArg (fun l => l[k]?) hps
        simpa [prR, List.getElem?_map, List.getElem?_eq_getElem hkp, List.getElem?_eq_getElem hkx] using h
      refine ⟨g, ps[k].1, rfl, by omega, by have := hr.row_lt k hkp; omega, ?_, ?_⟩
      · rw [hc k hkp]; unfold rowV; rw [e2]; rfl
      · have hb := hr.blk k hkp
        rw [e2] at hb
        rw [hb.cell 1]
        simp [ivs, lst, List.getElem?_map, List.getElem?_eq_getElem hkx]
  obtain ⟨ao, cap, rfl, HC⟩ := HF.out
  have HC := Lib.hid HC
  have hB1 : B0 ≤ w1.heap.size := by omega
  clear ha hps hr hnn hpl b1 hB0 HF
  go_wp2
  go_loopw [6, 16] (fun o i wr => ∃ (k : Nat) (ys : List Int), k ≤ n ∧ i = .int .i64 k ∧ Hid (ys = (lst xs).take k) ∧ Hid (Ints B0 ys o wr) ∧ Below B0 w1 wr) (fun _ i _ => n - (intOf i).toNat)
  case atStart => exact ⟨0, [], Nat.zero_le _, rfl, by show _ = _; simp, World.ownsRow_nil _ _ _ _, Below.refl _ _⟩
  case round =>
    obtain ⟨k, ys, hk, rfl, HY, HI, hb⟩ := hrel
    have hbs := hb.size
    have hyl : ys.length ≤ 1000000 := by rw [HY.out, List.length_take]; omega
    by_cases hlt : k < n
    · obtain ⟨g, q, rfl, hg, hq, c0, c1⟩ := HC.out k hlt
      obtain ⟨y, hy⟩ : ∃ y, y = (lst xs).getD k 0 := ⟨_, rfl⟩
      rw [← hy] at c1
      have c0 := (hb.cell (p := ⟨g, k, none⟩) hg).trans c0
      have c1 := (hb.cell (p := ⟨q, 1, none⟩) hq).trans c1
      have HE : Hid (ys ++ [y] = (lst xs).take (k + 1)) := by
        show _ = _
        have hkx : k < (lst xs).length := by rw [lst_len, ← HN.out]; exact hlt
        rw [List.take_succ_eq_append_getElem hkx, ← HY.out, hy, List.getD_eq_getElem?_getD, List.getElem?_eq_getElem hkx]; rfl
      clear hy
      go_wp2_with (at_builtin; refine wpList_append_int _ rfl _ _ rfl B0 ys _ rfl (HI.out.alloc _) _ y rfl (by simp [go_sem]) hyl (by simp; omega) ?_; intro v1 w6 hr6 hb6 _)
      go_roundw
      case rel => exact ⟨k + 1, ys ++ [y], by omega, by go_num, HE.out, hr6, hb.trans (Below.trans ((Below.refl _ _).alloc (by omega) _) hb6)⟩
      case measure => simp [intOf]; omega
    · have HK : Hid (k = n) := by show _ = _; omega
      go_wp2
      go_ret2
      refine ⟨⟨xs, _, rfl, HA.out, ?_⟩, HB1.out.trans (hb.mono (by rw [HB0.out]; exact hb1s))⟩
      have e : ys = lst xs := by rw [HY.out, HK.out, HN.out, ← lst_len, List.take_length]
      rw [← e]
      exact HI.out.mono (by rw [HB0.out]; exact hb1s)
set_option maxHeartbeats 1000000 in
theorem FnExactSquareStreets_law (m : Int) (_h0 : (Lit.int .i64 m).wf = true) (w : World) :
    Calls Try.prog 8 #[.int .i64 m] w fun e w' => e = .returned (.bool true) ∧ Below w.heap.size w w' := by
  go_enter Try.func8, Try.ntmps8
  go_wp2_with fail
  refine (sSq_any m _).mono ?_
  rintro e w1 ⟨⟨xs, v0, rfl, ha, i0⟩, b1⟩
  have hn : (lst xs).length ≤ 1000000 := by rw [lst_len]; exact ha.len
  go_wp2_with fail
  refine (iSq_any m _).mono ?_
  rintro e w2 ⟨⟨ys, g0, rfl, hb, j0⟩, b2⟩
  obtain rfl : ys = xs := AnsB.uniq hb ha
  have i1 := i0.below b2
  go_wp2_with fail
  refine (eqInts_yes _ _ (lst ys) _ _ _ hn j0 i1).mono ?_
  rintro e w' ⟨rfl, q, rfl⟩
  go_wp2_with fail
  refine (mark_any w1.heap.size (lst ys) g0 1 _ hn (by omega) (j0.drewN q)).mono ?_
  rintro e w3 ⟨rfl, k0, b3⟩
  have i3 := (i1.drewN q).apart (.inr i0.own_lt) b3
  go_wp2_with fail
  refine (held_any w1.heap.size (lst ys).length g0 1 _ hn (by omega) k0).mono ?_
  rintro e w' ⟨rfl, rfl⟩
  go_wp2_with fail
  refine (iSq_any m _).mono ?_
  rintro e w4 ⟨⟨zs, h0, rfl, hc, l0⟩, b4⟩
  obtain rfl : zs = ys := AnsB.uniq hc ha
  have i4 := i3.below b4
  have k4 := k0.below b4
  go_wp2_with fail
  refine (eqInts_yes _ _ (lst zs) _ _ _ hn l0 i4).mono ?_
  rintro e w' ⟨rfl, q2, rfl⟩
  go_wp2_with fail
  refine (held_any w1.heap.size (lst zs).length g0 1 _ hn (by omega) (k4.drewN q2)).mono ?_
  rintro e w' ⟨rfl, rfl⟩
  go_wp2_with fail
  go_ret
  exact ⟨rfl, below_drewN (((below_drewN (b1.trans (b2.mono b1.size)) q).trans (b3.mono b1.size)).trans (b4.mono (by have h1 := b1.size; have h2 := b2.size; have h3 : w2.heap.size ≤ w3.heap.size := b3.size; omega))) _⟩
end Go.Proofs.Ytjjegpoimnkknab
