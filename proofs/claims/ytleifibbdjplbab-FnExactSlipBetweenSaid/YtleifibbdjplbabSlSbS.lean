/-
  The law of SlipBetween: the model.
-/
import Derived.Test.YtleifibbdjplbabSlSbM
namespace Go.Proofs.Ytleifibbdjplbab
open Go.RowKit

theorem below_drwN {B n : Nat} {a w : World} (h : Below B a w) : Below B a (w.drewN n) := ⟨h.os, h.tape, h.output, h.size, h.block⟩
theorem cell_new (W : World) (x : Value) (T : TypeId) : (W.alloc (.cells #[x] T)).cell? ⟨W.heap.size, 0, none⟩ = some x := by simp
theorem Ints.len0 {B : Nat} {v : Value} {w : World} (h : Ints B [] v w) : ∃ ao cap, v = .slice ao 0 cap := by
  rcases h.form with ⟨ao, cap, rfl, _⟩ | ⟨g, cap, rfl, _⟩
  · exact ⟨_, _, rfl⟩
  · exact ⟨_, _, rfl⟩
theorem ownsRow_own1 {w : World} {B n k : Nat} {T : TypeId} {xs : List Value} {v : Value} (h : w.ownsRow B T k v n xs) (hn : 0 < n) :
    ∃ g cap, v = .slice (some ⟨g, 0, none⟩) n cap ∧ g < w.heap.size ∧ ∀ j u, xs[j]? = some u → w.cell? ((⟨g, 0, none⟩ : Addr).add j) = some u := by
  rcases h.2 with ⟨_, h0⟩ | ⟨g, cap, cur, hv, hb, hg, _⟩
  · omega
  · refine ⟨g, cap, hv, (Array.getElem?_eq_some_iff.1 hg).1, ?_⟩
    subst hv
    exact h.cells (g := g) rfl
theorem Ints.own1 {B : Nat} {xs : List Int} {v : Value} {w : World} (h : Ints B xs v w) (hn : 0 < xs.length) :
    ∃ g cap, v = .slice (some ⟨g, 0, none⟩) xs.length cap ∧ g < w.heap.size ∧ ∀ j u, (xs.map (Value.int .i64))[j]? = some u → w.cell? ((⟨g, 0, none⟩ : Addr).add j) = some u := ownsRow_own1 h hn
set_option maxHeartbeats 1000000 in
theorem sBtw_any (s t : ByteArray) (w : World) (hs : s.size ≤ maxLen) (ht : t.size ≤ maxLen) :
    Calls Try.prog 17 #[.string s, .string t] w fun e w' => e = .returned (.tuple #[.string (sbA s t), .bool (sbB s t)]) ∧ Below w.heap.size w w' := by
  have hs' := hs
  have ht' := ht
  unfold maxLen at hs' ht'
  by_cases hok : ardB s 1 12 = true ∧ (ardB t 1 12 = true ∧ s.size = t.size)
  case neg =>
    have hz : sbB s t = false := by
      cases h : sbB s t with
      | false => rfl
      | true =>
        unfold sbB at h
        rw [Bool.and_eq_true, Bool.and_eq_true, decide_eq_true_eq] at h
        refine absurd ⟨h.1, ?_, h.2.1.symm⟩ hok
        have h1 := h.1
        unfold ardB at h1 ⊢
        rw [Bool.and_eq_true, decide_eq_true_eq] at h1
        rw [h.2.2, h.2.1, decide_eq_true h1.1]; rfl
    have HZ : Hid (sbA s t = ⟨#[]⟩) := by show _ = _; unfold sbA; rw [if_neg (by simp [hz])]
    rw [HZ.out, hz]
    obtain ⟨b1, hb1⟩ : ∃ b1, b1 = ardB s 1 12 := ⟨_, rfl⟩
    obtain ⟨b2, hb2⟩ : ∃ b2, b2 = ardB t 1 12 := ⟨_, rfl⟩
    rw [← hb1, ← hb2] at hok
    have HB1 := Lib.hid hb1
    have HB2 := Lib.hid hb2
    clear hb1 hb2 hz HZ
    have hq : b1 = false ∨ (b1 = true ∧ b2 = false) ∨ (b1 = true ∧ b2 = true ∧ ¬ s.size = t.size) := by
      cases b1 <;> cases b2 <;> simp_all
    clear hok
    rcases hq with rfl | ⟨rfl, rfl⟩ | ⟨rfl, rfl, hne⟩
    case' inr.inr =>
      have hne1 : ((s.size : Int) == (t.size : Int)) = false := beq_false_of_ne (by omega)
      have hne2 : ¬ (s.size : Int) = (t.size : Int) := by omega
    all_goals
      go_enter Try.func17, Try.ntmps17
      go_wp2_with (first | (go_at_call 33; (with_reducible refine (slDigits_any s _ hs).mono ?_); rintro e w1 ⟨rfl, rfl⟩; rw [← HB1.out]) | (go_at_call 33; (with_reducible refine (slDigits_any t _ ht).mono ?_); rintro e w1 ⟨rfl, rfl⟩; rw [← HB2.out]))
      go_ret2
      exact ⟨rfl, Below.refl _ _⟩
  case pos =>
    obtain ⟨ho1, ho2, hsz⟩ := hok
    have hp1 : (1 ≤ (s.size : Int) ∧ (s.size : Int) ≤ 12) ∧ digB s.data.toList = true := by simpa [ardB, and_assoc] using ho1
    have hp2 : (1 ≤ (t.size : Int) ∧ (t.size : Int) ≤ 12) ∧ digB t.data.toList = true := by simpa [ardB, and_assoc] using ho2
    have hz : sbB s t = true := by unfold sbB; rw [ho1, hp2.2, hsz]; simp
    have hs12 : s.size ≤ 12 := by omega
    have HZ : Hid (sbA s t = sbT s.data.toList t.data.toList (dfk s.data.toList t.data.toList s.size)) := by show _ = _; unfold sbA; rw [if_pos hz]
    rw [HZ.out, hz]
    have HB1 := Lib.hid ho1
    have HB2 := Lib.hid ho2
    have hsz1 : ((s.size : Int) != (t.size : Int)) = false := by rw [hsz]; simp
    have HL : Hid (s.data.toList.length = t.data.toList.length) := by show _ = _; simpa using hsz
    have HSZ := Lib.hid hsz
    clear ho1 ho2 hp1 hp2 hz HZ hsz
    go_enter Try.func17, Try.ntmps17
    go_wp2_with (first | (go_at_call 33; (with_reducible refine (slDigits_any s _ hs).mono ?_); rintro e w1 ⟨rfl, rfl⟩; rw [HB1.out]) | (go_at_call 33; (with_reducible refine (slDigits_any t _ ht).mono ?_); rintro e w1 ⟨rfl, rfl⟩; rw [HB2.out]))
    clear hsz1
    go_loopw [6, 7] (fun vv iv wr => ∃ (k : Nat) (ds : List Nat), k ≤ s.size ∧ iv = .int .i64 k ∧ Hid (ds = dfk s.data.toList t.data.toList k) ∧ Hid (Ints w.heap.size (ds.map Int.ofNat) vv wr) ∧ Below w.heap.size w wr) (fun _ iv _ => s.size - (intOf iv).toNat)
    case atStart => exact ⟨0, [], Nat.zero_le _, rfl, rfl, World.ownsRow_nil _ _ _ _, Below.refl _ _⟩
    case round =>
      obtain ⟨k, ds, hk, rfl, HY, HI, hb⟩ := hrel
      obtain ⟨wo, rfl⟩ : ∃ wo : World, wo = wr := ⟨_, rfl⟩
      by_cases hlt : k < s.size
      · have hlt2 : k < t.size := by have := HSZ.out; omega
        have hi0 : (0 : Int) ≤ (k : Int) := by omega
        have hi1 : (k : Int) < (s.size : Int) := by omega
        have hi2 : (k : Int) < (t.size : Int) := by omega
        have hyl : ds.length ≤ 12 := by rw [HY.out]; have := dfk_len s.data.toList t.data.toList k; omega
        have hwz := hb.size
        by_cases hc : s[k] = t[k]
        · have HY2 : Hid (ds = dfk s.data.toList t.data.toList (k + 1)) := by show _ = _; rw [dfk_same (by rw [get_D s k hlt, get_D t k hlt2]; exact hc), HY.out]
          have hc2 : (s[k].toNat : Int) = (t[k].toNat : Int) := by rw [hc]
          have e1 : ((s[k].toNat : Int) != (t[k].toNat : Int)) = false := by rw [hc2]; simp
          go_wp2_with fail
          go_quiet (fail)
          all_goals go_wp2
          go_roundw
          case rel => exact ⟨k + 1, ds, by omega, by go_num, HY2, HI.out, below_drwN hb⟩
          case measure => simp [intOf]; omega
        · have HY2 : Hid (ds ++ [k] = dfk s.data.toList t.data.toList (k + 1)) := by show _ = _; rw [dfk_diff (by rw [get_D s k hlt, get_D t k hlt2]; exact hc), HY.out]
          have hc2 : ¬ (s[k].toNat : Int) = (t[k].toNat : Int) := fun e => hc (UInt8.toNat_inj.1 (by omega))
          have e1 : ((s[k].toNat : Int) != (t[k].toNat : Int)) = true := by simpa using hc2
          go_wp2_with fail
          go_quiet (fail)
          go_wp2_with (at_builtin; refine wpList_append_int _ rfl _ _ rfl w.heap.size (ds.map Int.ofNat) _ rfl ((HI.out.drewN nq).alloc _) (wo.drewN nq).heap.size (k : Int) rfl (cell_new (wo.drewN nq) _ _) (by rw [List.length_map]; omega) (by rw [World.size_alloc]; show w.heap.size ≤ wo.heap.size + 1; omega) ?_; intro v' w5 hI5 hg5 _)
          go_roundw
          case rel => exact ⟨k + 1, ds ++ [k], by omega, by go_num, HY2, by show Ints _ _ _ _; rw [List.map_append]; exact hI5, ((below_drwN hb).alloc hwz _).trans hg5⟩
          case measure => simp [intOf]; omega
      · have hke : k = s.size := by omega
        have HD : Hid (dfk s.data.toList t.data.toList s.size = ds) := by show _ = _; rw [HY.out, hke]
        clear HY
        match ds, HD, HI with
        | [], HD, HI =>
          obtain ⟨ao, cap, rfl⟩ := HI.out.len0
          go_wp2
          go_ret2
          exact ⟨ret_sb (by rw [HD.out]; rfl) rfl, hb⟩
        | [i], HD, HI =>
          obtain ⟨g, cap, rfl, _⟩ := HI.out.own1 (by simp)
          go_wp2
          go_ret2
          exact ⟨ret_sb (by rw [HD.out]; rfl) rfl, hb⟩
        | [i, j], HD, HI =>
          have hm1 : i < s.size := ((dfk_mem s.data.toList t.data.toList s.size i).1 (by rw [HD.out]; simp)).1
          have hm2 : j < s.size := ((dfk_mem s.data.toList t.data.toList s.size j).1 (by rw [HD.out]; simp)).1
          obtain ⟨g, cap, rfl, hgl, hgc⟩ := HI.out.own1 (by simp)
          have c0 : wo.cell? ⟨g, 0, none⟩ = some (.int .i64 (i : Int)) := by have := hgc 0 (.int .i64 (i : Int)) (by simp); simpa [Addr.add] using this
          have c1 : wo.cell? ⟨g, 1, none⟩ = some (.int .i64 (j : Int)) := by have := hgc 1 (.int .i64 (j : Int)) (by simp); simpa [Addr.add] using this
          obtain ⟨ii, hii⟩ : ∃ ii, ii = i + 1 := ⟨_, rfl⟩
          have hw1 : (i : Int) + 1 = (ii : Int) := by omega
          have hw2 : IntKind.i64.wrap (ii : Int) = (ii : Int) := IntWalk.i64_in _ (by omega)
          have HII := Lib.hid hii
          clear hii
          by_cases hij : j = ii
          · have q1 : ((j : Int) == (ii : Int)) = true := by rw [hij]; simp
            have hp : i + 1 < s.size := by have := HII.out; omega
            have hsw : Hid (((swS s i).toList == t.toList) = isSwp s.data.toList t.data.toList [i, j]) := by
              show _ = _
              have hd2 : dfk s.data.toList t.data.toList s.data.toList.length = [i, i + 1] := by rw [show s.data.toList.length = s.size by simp, HD.out, hij, HII.out]
              have h1 := swp_iff s.data.toList t.data.toList i HL.out (by simpa using hp) hd2
              rw [hij, HII.out, Bool.eq_iff_iff, ← h1, ← swS_list s i hp, beq_iff_eq, ByteArray.toList_eq, ByteArray.toList_eq]
            obtain ⟨bz, hbz⟩ : ∃ bz, bz = isSwp s.data.toList t.data.toList [i, j] := ⟨_, rfl⟩
            have HT : Hid (sbT s.data.toList t.data.toList [i, j] = if bz = true then tSwap else tMore) := by show _ = _; rw [hbz]; rfl
            have HBZ : Hid (((swS s i).toList == t.toList) = bz) := by show _ = _; rw [hbz]; exact hsw.out
            clear hbz hij hsw
            go_wp2_with fail
            cases bz with
            | true =>
              have hx : ((swS s i).toList == t.toList) = true := HBZ.out
              have hx2 : (swS s i).toList = t.toList := by simpa using hx
              go_region_held3 (fun w' => w'.cell? ⟨g, 0, none⟩ = some (.int .i64 (i : Int)) ∧ w'.cell? ⟨g, 1, none⟩ = some (.int .i64 (j : Int)))
                (first | go_keep | exact ⟨k0, k1⟩)
                (first | (go_at_call 28; (refine (slSwap_any s i _ (by omega) hp).mono ?_); rintro e w3 ⟨rfl, b3⟩; have B3 : Below wo.heap.size wo w3 := chain (w := wo) (by go_grown) b3; obtain ⟨k0, k1, kz⟩ := keep2 hgl c0 c1 B3))
              all_goals
                go_wp2
                go_ret2
                exact ⟨ret_sb (by rw [HD.out, HT.out]; rfl) rfl, chain hb B3⟩
            | false =>
              have hx : ((swS s i).toList == t.toList) = false := HBZ.out
              have hx2 : ¬ (swS s i).toList = t.toList := by simpa using hx
              go_region_held3 (fun w' => w'.cell? ⟨g, 0, none⟩ = some (.int .i64 (i : Int)) ∧ w'.cell? ⟨g, 1, none⟩ = some (.int .i64 (j : Int)))
                (first | go_keep | exact ⟨k0, k1⟩)
                (first | (go_at_call 28; (refine (slSwap_any s i _ (by omega) hp).mono ?_); rintro e w3 ⟨rfl, b3⟩; have B3 : Below wo.heap.size wo w3 := chain (w := wo) (by go_grown) b3; obtain ⟨k0, k1, kz⟩ := keep2 hgl c0 c1 B3))
              all_goals
                go_wp2
                go_ret2
                exact ⟨ret_sb (by rw [HD.out, HT.out]; rfl) rfl, chain hb B3⟩
          · have q1 : ((j : Int) == (ii : Int)) = false := beq_false_of_ne (by omega)
            have q2 : ¬ (j : Int) = (ii : Int) := by omega
            have HT : Hid (sbT s.data.toList t.data.toList [i, j] = tMore) := by
              show _ = _
              have : isSwp s.data.toList t.data.toList [i, j] = false := by show (decide (j = i + 1) && _) = false; rw [decide_eq_false (by have := HII.out; omega)]; rfl
              unfold sbT; rw [this]; rfl
            clear hij
            go_wp2_with fail
            go_quiet (fail)
            all_goals go_wp2
            go_ret2
            exact ⟨ret_sb (by rw [HD.out, HT.out]; rfl) rfl, by first | exact hb | exact below_drwN hb⟩
        | i :: j :: l :: rest, HD, HI =>
          obtain ⟨g, cap, rfl, _⟩ := HI.out.own1 (by simp)
          obtain ⟨n, hn⟩ : ∃ n : Nat, n = (i :: j :: l :: rest).length := ⟨_, rfl⟩
          have hn3 : 3 ≤ n := by rw [hn]; simp
          have hn12 : n ≤ 12 := by rw [hn, ← HD.out]; have := dfk_len s.data.toList t.data.toList s.size; omega
          have q0 : ((n : Int) == 0) = false := beq_false_of_ne (by omega)
          have q1 : ((n : Int) == 1) = false := beq_false_of_ne (by omega)
          have q2 : ((n : Int) == 2) = false := beq_false_of_ne (by omega)
          have p0 : ¬ (n : Int) = 0 := by omega
          have p1 : ¬ (n : Int) = 1 := by omega
          have p2 : ¬ (n : Int) = 2 := by omega
          have HT : Hid (sbT s.data.toList t.data.toList (i :: j :: l :: rest) = tMore) := rfl
          rw [show ((i :: j :: l :: rest).map Int.ofNat).length = n by rw [List.length_map, hn]]
          clear hn
          go_wp2_with fail
          go_quiet (fail)
          all_goals go_wp2
          go_ret2
          exact ⟨ret_sb (by rw [HD.out, HT.out]; rfl) rfl, by first | exact hb | exact below_drwN hb⟩
end Go.Proofs.Ytleifibbdjplbab
