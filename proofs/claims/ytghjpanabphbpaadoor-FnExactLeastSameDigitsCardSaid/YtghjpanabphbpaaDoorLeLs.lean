/-
  Least numbers: LeastSameDigits.
-/
import Derived.Test.YtghjpanabphbpaaDoorLeLk
namespace Go.Proofs.YtghjpanabphbpaaDoor
open Go.RowKit
set_option maxRecDepth 100000

theorem min2 {P : Program} (ts : Array TypeId) (t : TypeId) (x y : Int) (W : World) :
    (Builtin.min_ ts t #[.int .i64 x, .int .i64 y]).run P W = .ok (.int .i64 (if y < x then y else x)) W := by
  simp [Builtin.min_, Builtin.min2]
/-- What the program's text is made of. -/
theorem lsd_facts {f r : Nat → Int} {m : Nat} {u : ByteArray} (hR : Rsd f r m) (h1 : 1 ≤ m) (hu : (⟨(byL m (fun j => 48 + r j)).toArray⟩ : ByteArray) = u) :
    ∃ k z : Nat, KIs r m k ∧ u.size = m ∧ min (z : Int) ((m : Int) - 1) = (k : Int) ∧ (if (m : Int) - 1 < (z : Int) then (m : Int) - 1 else (z : Int)) = (k : Int) ∧ u.data.toList.count 48 = z ∧ z ≤ m ∧
      (u.extract k (k + 1) ++ u.extract 0 k) ++ u.extract (k + 1) m = ⟨(byL m (fun j => 48 + xch r 0 k j)).toArray⟩ := by
  obtain ⟨z, z1, z2, z3, z4⟩ := cw_zeros (fun j => (hR.dig j).1) m hR.srt
  have hd : u.data.toList = byL m (fun j => 48 + r j) := by rw [← hu]
  have hus : u.size = m := by
    have : u.data.toList.length = m := by rw [hd, byL_len]
    simpa using this
  obtain ⟨k, hk⟩ : ∃ k, min z (m - 1) = k := ⟨_, rfl⟩
  have hK : KIs r m k := by
    refine ⟨by omega, fun j hj => z3 j (by omega), ?_⟩
    by_cases c : k + 1 = m
    · exact .inl c
    · exact .inr (z4 k (by omega) (by omega))
  refine ⟨k, z, hK, hus, by omega, by split <;> omega, ?_, z1, ?_⟩
  · have := byL_count hR.dig m
    rw [← hd, z2] at this
    omega
  · have hb := byL_least hK
    rw [← hb, ← hd]
    apply ByteArray.ext
    simp [ByteArray.data_append, ByteArray.data_extract, ← hus]
    have e1 : List.drop k (List.take (k + 1) u.data.toList) = List.take 1 (List.drop k u.data.toList) := by rw [List.drop_take, Nat.add_sub_cancel_left]
    have e2 : List.take (u.size - (k + 1)) (List.drop (k + 1) u.data.toList) = List.drop (k + 1) u.data.toList := List.take_of_length_le (by simp)
    rw [e1, e2]
/-- What both answer. -/
def LeIs (n t : Int) (ok : Bool) : Prop := (nuB n = true ∧ ok = true ∧ ∃ r k, Rsd (dj (txs n)) r (txs n).size ∧ KIs r (txs n).size k ∧ t = nf (xch r 0 k) (txs n).size) ∨ (nuB n = false ∧ ok = false ∧ t = 0)
theorem LeIs.uniq {n t s : Int} {a b : Bool} (u : LeIs n t a) (v : LeIs n s b) : t = s ∧ a = b := by
  rcases u with ⟨u1, rfl, r, k, u2, u3, rfl⟩ | ⟨u1, rfl, rfl⟩ <;> rcases v with ⟨v1, rfl, q, l, v2, v3, rfl⟩ | ⟨v1, rfl, rfl⟩
  · have h := u2.uniq v2
    have e := KIs.uniq h u3 v3
    subst e
    refine ⟨nf_same (fun j hj => ?_), rfl⟩
    unfold xch
    rw [h k u3.lt, h 0 (by omega), h j hj]
  · rw [u1] at v1; cases v1
  · rw [u1] at v1; cases v1
  · exact ⟨rfl, rfl⟩
theorem xch_09 {r : Nat → Int} (h : ∀ j, 0 ≤ r j ∧ r j ≤ 9) (k o j : Nat) : 0 ≤ xch r k o j ∧ xch r k o j ≤ 9 := by
  unfold xch
  repeat' split
  all_goals exact h _
set_option maxHeartbeats 2000000 in
theorem iLe_any (n : Int) (w : World) (htab : Tab w) :
    Calls Tryd.prog 29 #[.int .i64 n] w fun e w' => (∃ (t : Int) (ok : Bool), e = .returned (.tuple #[.int .i64 t, .bool ok]) ∧ LeIs n t ok) ∧ Below w.heap.size w w' := by
  have HZ := Lib.hid (fun W => isNumber_any n W)
  cases hb : nuB n with
  | false =>
    have HR : Hid (LeIs n 0 false) := .inr ⟨hb, rfl, rfl⟩
    rw [hb] at HZ
    clear hb htab
    go_enter Tryd.func29, Tryd.ntmps29
    go_wp2_with (go_at_call 52; (with_reducible refine (HZ.out _).mono ?_); rintro e w' ⟨rfl, rfl⟩)
    go_ret2
    exact ⟨⟨0, false, rfl, HR.out⟩, Below.refl _ _⟩
  | true =>
    obtain ⟨h0, h1⟩ := (nuB_iff n).1 hb
    have HG : Hid (∀ r k t, Rsd (dj (txs n)) r (txs n).size → KIs r (txs n).size k → t = nf (xch r 0 k) (txs n).size → LeIs n t true) := fun r k t h h2 e => .inl ⟨hb, rfl, r, k, h, h2, e⟩
    have hsz := (txs_of n).size h1
    have HI := Lib.hid (rising_any n (txs n) w h0 h1 (txs_of n) htab)
    obtain ⟨s, hs⟩ : ∃ s, txs n = s := ⟨_, rfl⟩
    rw [hs] at HG hsz HI
    obtain ⟨m, hm⟩ : ∃ m, s.size = m := ⟨_, rfl⟩
    rw [hm] at HG hsz HI
    obtain ⟨hm1, hm2⟩ := hsz
    have HCO := Lib.hid (fun u W => Tryd.strings_Count_one u 48 W)
    rw [hb] at HZ
    clear hb htab hs hm
    go_enter Tryd.func29, Tryd.ntmps29
    go_wp2_with (first | (go_at_call 52; (with_reducible refine (HZ.out _).mono ?_); rintro e w' ⟨rfl, rfl⟩) | (go_at_call 57; refine HI.out.mono ?_; rintro e w1 ⟨⟨r, rfl, hr⟩, b1⟩; have HR := Lib.hid hr; obtain ⟨u, hu⟩ : ∃ u, (⟨(byL m (fun j => 48 + r j)).toArray⟩ : ByteArray) = u := ⟨_, rfl⟩; rw [hu]; obtain ⟨k, z, hK, hus, hmn, hmn2, hcz, hzm, hx⟩ := lsd_facts hr hm1 hu; have HK := Lib.hid hK; have HX := Lib.hid hx; have HC := Lib.hid hcz; clear hr hu hK hx hcz) | (go_at_call 58; refine (HCO.out u _).mono ?_; rintro e w2 ⟨rfl, rfl⟩; rw [show Lib.countByte u.data.toList 48 = z from HC.out]))
    have hkm := HK.out.lt
    have HN : Hid (∀ W, Calls Tryd.prog 39 #[.string ((u.extract k (k + 1) ++ u.extract 0 k) ++ u.extract (k + 1) m)] W fun e w' => e = .returned (.int .i64 (nf (xch r 0 k) m)) ∧ W = w') := fun W => by
      rw [HX.out]
      have h2 := numL_any (byL m (fun j => 48 + xch r 0 k j)) W (by rw [byL_len]; omega) (byL_dig (xch_09 HR.out.dig 0 k) m)
      rw [dnum_byL (xch_09 HR.out.dig 0 k) m] at h2
      exact h2
    obtain ⟨k1, hk1⟩ : ∃ k1, k + 1 = k1 := ⟨_, rfl⟩
    rw [hk1] at HN
    have hkk : (k : Int) + 1 = (k1 : Int) := by omega
    have f1 : IntKind.i64.wrap ((k : Int) + 1) = (k1 : Int) := by rw [IntWalk.i64_in] <;> omega
    have hk1m : k1 ≤ m := by omega
    have hkk1 : k ≤ k1 := by omega
    have hk1s : k1 ≤ u.size := by omega
    have hks : k ≤ u.size := by omega
    clear hk1 hmn hmn2
    go_quiet ((go_at_call 39; refine (HN.out _).mono ?_; rintro e w' ⟨rfl, rfl⟩; exact ⟨rfl, _, rfl⟩))
    go_wp2
    go_ret2
    exact ⟨⟨_, true, rfl, HG.out r k _ HR.out HK.out rfl⟩, below_drewN b1 _⟩
set_option maxHeartbeats 2000000 in
theorem sLe_any (n : Int) (w : World) :
    Calls Tryd.prog 28 #[.int .i64 n] w fun e w' => (∃ (t : Int) (ok : Bool), e = .returned (.tuple #[.int .i64 t, .bool ok]) ∧ LeIs n t ok) ∧ Below w.heap.size w w' := by
  have HZ := Lib.hid (fun W => leNumber_any n W)
  cases hb : nuB n with
  | false =>
    have HR : Hid (LeIs n 0 false) := .inr ⟨hb, rfl, rfl⟩
    rw [hb] at HZ
    clear hb
    go_enter Tryd.func28, Tryd.ntmps28
    go_wp2_with (go_at_call 46; (with_reducible refine (HZ.out _).mono ?_); rintro e w' ⟨rfl, rfl⟩)
    go_ret2
    exact ⟨⟨0, false, rfl, HR.out⟩, Below.refl _ _⟩
  | true =>
    obtain ⟨h0, h1⟩ := (nuB_iff n).1 hb
    have HG : Hid (∀ r k t, Rsd (dj (txs n)) r (txs n).size → KIs r (txs n).size k → t = nf (xch r 0 k) (txs n).size → LeIs n t true) := fun r k t h h2 e => .inl ⟨hb, rfl, r, k, h, h2, e⟩
    have hsz := (txs_of n).size h1
    have hdg := (txs_of n).dig
    have hlL := leSorted_any n.toNat (txs n) w (by omega) (txs_of n)
    have hnn : ((n.toNat : Nat) : Int) = n := by omega
    rw [hnn] at hlL
    have HL := Lib.hid hlL
    obtain ⟨s, hs⟩ : ∃ s, txs n = s := ⟨_, rfl⟩
    rw [hs] at HG hsz HL hdg
    have H09 := Lib.hid (dj_09 hdg)
    rw [hb] at HZ
    obtain ⟨m, hm⟩ : ∃ m, s.size = m := ⟨_, rfl⟩
    rw [hm] at HG hsz HL
    obtain ⟨hm1, hm2⟩ := hsz
    clear hb hs hdg hnn hlL hm
    go_enter Tryd.func28, Tryd.ntmps28
    go_wp2_with (first | (go_at_call 46; (with_reducible refine (HZ.out _).mono ?_); rintro e w' ⟨rfl, rfl⟩) | (go_at_call 56; refine HL.out.mono ?_; rintro e w1 ⟨⟨v, xs, rfl, hi, hso⟩, b1⟩; obtain ⟨hR, hlen⟩ := Rsd.ofSoL H09.out hso; have HR := Lib.hid hR; have HI := Lib.hid hi; rcases hi.form with ⟨ao, cap', rfl, he⟩ | ⟨g, cap, rfl, hgb, hg, hc, hfz⟩))
    · omega
    · have HC : Hid (IYt w1 g m (gx xs)) := ⟨hg, fun i hi => hc i (by rw [hlen]; exact hi), fun i _ => hfz i⟩
      clear hc hi hso hR hfz
      try rw [hlen]
      go_loop [5] (fun kv => ∃ k : Nat, kv = .int .i64 k ∧ k < m ∧ Hid (∀ j, j < k → gx xs j = 0)) (fun kv => m - (intOf kv).toNat)
      case atStart => exact ⟨0, rfl, by omega, fun j hj => by omega⟩
      case round =>
        obtain ⟨k, rfl, hkm, HZ0⟩ := hrel
        have ck := HC.out.cell k hkm
        have c0 := HC.out.cell 0 (by omega)
        have zk := HC.out.fz k hkm
        have z0 := HC.out.fz 0 (by omega)
        obtain ⟨x, hx⟩ : ∃ x, gx xs k = x := ⟨_, rfl⟩
        obtain ⟨y, hy⟩ : ∃ y, gx xs 0 = y := ⟨_, rfl⟩
        rw [hx] at ck
        rw [hy] at c0
        have HXX := Lib.hid hx
        have HYY := Lib.hid hy
        have hkI : (k : Int) < (m : Int) := by omega
        have h0I : (0 : Int) < (m : Int) := by omega
        clear hx hy
        have HGO : Hid (∀ hK : KIs (gx xs) m k, ∀ W, IYt W g m (xch (gx xs) 0 k) → Calls Tryd.prog 51 #[.slice (some ⟨g, 0, none⟩) m cap] W fun e w' => e = .returned (.int .i64 (nf (xch (gx xs) 0 k) m)) ∧ W = w') := fun _ W h => leOf_any g m cap _ W (by omega) (xch_09 HR.out.dig 0 k) h
        have HP : Hid (IYt ((w1.setCell ⟨g, k, none⟩ (.int .i64 y)).setCell ⟨g, 0, none⟩ (.int .i64 x)) g m (xch (gx xs) 0 k)) := by
          refine IYt.put (IYt.put (g := fun j => if j = k then y else gx xs j) HC.out k y hkm (fun _ _ => rfl)) 0 x (by omega) (fun j _ => ?_)
          unfold xch
          rw [HXX.out, HYY.out]
        have HB : Hid (Below w.heap.size w ((w1.setCell ⟨g, k, none⟩ (.int .i64 y)).setCell ⟨g, 0, none⟩ (.int .i64 x))) := bel_set (bel_set b1 hgb) hgb
        by_cases hlast : (k : Int) < (m : Int) - 1
        · by_cases hx0 : x = 0
          · subst hx0
            have HZ1 : Hid (∀ j, j < k + 1 → gx xs j = 0) := fun j hj => by
              by_cases e : j = k
              · subst e; exact HXX.out
              · exact HZ0.out j (by omega)
            have hkm2 : k + 1 < m := by omega
            clear HGO HP HB
            go_wp2
            go_round
            case rel => exact ⟨k + 1, by go_num, hkm2, HZ1⟩
            case measure => simp [intOf]; omega
          · have hK : KIs (gx xs) m k := ⟨hkm, HZ0.out, .inr (by rw [HXX.out]; exact hx0)⟩
            have hx1 : (x == 0) = false := beq_eq_false_iff_ne.2 hx0
            have HW := Lib.hid (HGO.out hK _ HP.out)
            have HKK := Lib.hid hK
            by_cases hk0 : k = 0
            · subst hk0
              have hxy : y = x := by rw [ck] at c0; injection c0 with c0; injection c0 with _ c0; exact c0.symm
              subst hxy
              have HP1 : Hid (IYt (w1.setCell ⟨g, 0, none⟩ (.int .i64 y)) g m (xch (gx xs) 0 0)) := by
                refine IYt.put HC.out 0 y (by omega) (fun j _ => ?_)
                unfold xch
                rw [HYY.out]
                split <;> rfl
              have HW1 := Lib.hid (HGO.out hK _ HP1.out)
              have HB1 : Hid (Below w.heap.size w (w1.setCell ⟨g, 0, none⟩ (.int .i64 y))) := bel_set b1 hgb
              clear HGO hK c0 zk HXX
              go_wp2_with (go_at_call 51; (first | refine HW.out.mono ?_ | refine HW1.out.mono ?_); rintro e w3 ⟨rfl, rfl⟩)
              go_ret2
              first | exact ⟨⟨_, true, rfl, HG.out _ _ _ HR.out HKK.out rfl⟩, HB.out⟩ | exact ⟨⟨_, true, rfl, HG.out _ _ _ HR.out HKK.out rfl⟩, HB1.out⟩
            · have hne : (⟨g, k, none⟩ : Addr) ≠ ⟨g, 0, none⟩ := fun h => by have h1 := congrArg Addr.off h; simp at h1; omega
              go_wp2_with (go_at_call 51; refine HW.out.mono ?_; rintro e w3 ⟨rfl, rfl⟩)
              go_ret2
              exact ⟨⟨_, true, rfl, HG.out _ _ _ HR.out HKK.out rfl⟩, HB.out⟩
        · have hlF : ((k : Int) < (m : Int) - 1) = False := eq_false hlast
          have hK : KIs (gx xs) m k := ⟨hkm, HZ0.out, .inl (by omega)⟩
          have HW := Lib.hid (HGO.out hK _ HP.out)
          have HKK := Lib.hid hK
          by_cases hk0 : k = 0
          · subst hk0
            have hxy : y = x := by rw [ck] at c0; injection c0 with c0; injection c0 with _ c0; exact c0.symm
            subst hxy
            have HP1 : Hid (IYt (w1.setCell ⟨g, 0, none⟩ (.int .i64 y)) g m (xch (gx xs) 0 0)) := by
              refine IYt.put HC.out 0 y (by omega) (fun j _ => ?_)
              unfold xch
              rw [HYY.out]
              split <;> rfl
            have HW1 := Lib.hid (HGO.out hK _ HP1.out)
            have HB1 : Hid (Below w.heap.size w (w1.setCell ⟨g, 0, none⟩ (.int .i64 y))) := bel_set b1 hgb
            clear HGO hK c0 zk HXX
            go_wp2_with (go_at_call 51; (first | refine HW.out.mono ?_ | refine HW1.out.mono ?_); rintro e w3 ⟨rfl, rfl⟩)
            go_ret2
            first | exact ⟨⟨_, true, rfl, HG.out _ _ _ HR.out HKK.out rfl⟩, HB.out⟩ | exact ⟨⟨_, true, rfl, HG.out _ _ _ HR.out HKK.out rfl⟩, HB1.out⟩
          · have hne : (⟨g, k, none⟩ : Addr) ≠ ⟨g, 0, none⟩ := fun h => by have h1 := congrArg Addr.off h; simp at h1; omega
            go_wp2_with (go_at_call 51; refine HW.out.mono ?_; rintro e w3 ⟨rfl, rfl⟩)
            go_ret2
            exact ⟨⟨_, true, rfl, HG.out _ _ _ HR.out HKK.out rfl⟩, HB.out⟩
theorem FnExactLeastSameDigits_law (n : Int) (_h0 : (Lit.int .i64 n).wf = true) (w : World) (htab : Tab w) :
    Calls Tryd.prog 10 #[.int .i64 n] w fun e w' => e = .returned (.bool true) ∧ Below w.heap.size w w' := by
  have HT := Lib.hid (fun W hW => iLe_any n W (htab.keep hW))
  clear htab
  go_enter Tryd.func10, Tryd.ntmps10
  go_wp2_with (first | (go_at_call 28; go_must ((with_reducible refine (sLe_any _ _).mono ?_); rintro e w1 ⟨⟨l, a, rfl, hr⟩, b1⟩; have HR := Lib.hid hr; clear hr)) | (go_at_call 29; go_must ((refine (HT.out _ b1).mono ?_); rintro e w2 ⟨⟨q, o, rfl, hq⟩, b2⟩; have e0 := (HR.out.uniq hq).1; have e1 := (HR.out.uniq hq).2; subst e0; subst e1; clear hq)))
  go_ret
  exact ⟨rfl, chain b1 b2⟩
end Go.Proofs.YtghjpanabphbpaaDoor
