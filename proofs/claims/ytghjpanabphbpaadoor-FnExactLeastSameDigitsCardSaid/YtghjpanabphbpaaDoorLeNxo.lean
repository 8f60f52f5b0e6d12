/-
  Least numbers: the program's next order of digits.
-/
import Derived.Test.YtghjpanabphbpaaDoorLeByt
namespace Go.Proofs.YtghjpanabphbpaaDoor
open Go.RowKit
set_option maxRecDepth 100000

theorem xch_bd {f : Nat → Int} {n k o : Nat} (h : ∀ j, j < n → 48 ≤ f j ∧ f j ≤ 57) (hk : k < n) (ho : o < n) : ∀ j, j < n → 48 ≤ xch f k o j ∧ xch f k o j ≤ 57 := fun j hj => by
  unfold xch; split
  · exact h o ho
  · split
    · exact h k hk
    · exact h j hj
theorem nxo_bd {f : Nat → Int} {n k o : Nat} (h : ∀ j, j < n → 48 ≤ f j ∧ f j ≤ 57) (hk : k + 1 < n) (ho : o < n) : ∀ j, j < n → 48 ≤ nxo f n k o j ∧ nxo f n k o j ≤ 57 := fun j hj => by
  unfold nxo; split
  · exact xch_bd h (by omega) ho j hj
  · exact xch_bd h (by omega) ho _ (by omega)
theorem slB (b n c k : Nat) (h1 : k < n) (h2 : n ≤ c) (W : World) :
    (Instr.slice 49 (.slice (some ⟨b, 0, none⟩) n c) (some (.int .i64 (k : Int))) none none).run Tryd.prog W = .ok (.slice (some ⟨b, k, none⟩) (n - k) (c - k)) W := by
  rw [run_slice_l W 49 (some ⟨b, 0, none⟩) n c (by kernel_rfl) .i64 (k : Int) (by omega) (by omega)]
  have hsz : (sizeOf (Tryd.prog.elem 49)).run Tryd.prog W = .ok 1 W := by kernel_rfl
  rw [hsz]
  have h3 : ¬ c = k := by omega
  simp [Result.andThen, sliced, h3, Addr.add]
  try omega
theorem byL_same {n : Nat} {f g : Nat → Int} (h : ∀ j, j < n → f j = g j) : byL n f = byL n g := by
  unfold byL
  exact List.map_congr_left (fun j hj => by rw [h j (List.mem_range.1 hj)])
/-- What the program answers. -/
def NxE (n : Nat) (f : Nat → Int) (e : Ending) : Prop :=
  (∃ k o, IsPl f n k ∧ IsOt f n k o ∧ e = .returned (.tuple #[.string ⟨(byL n (nxo f n k o)).toArray⟩, .bool true])) ∨ (NoPl f n ∧ e = .returned (.tuple #[.string ⟨#[]⟩, .bool false]))
set_option maxHeartbeats 4000000 in
theorem nextOrder_any (s : ByteArray) (n : Nat) (f : Nat → Int) (w : World) (hn : s.size = n) (hn1 : 1 ≤ n) (hn2 : n ≤ 100) (hf : ∀ j, j < n → ((s.data.toList.getD j 0).toNat : Int) = f j) (hb : ∀ j, j < n → 48 ≤ f j ∧ f j ≤ 57) :
    Calls Tryd.prog 53 #[.string s] w fun e w' => NxE n f e ∧ Below w.heap.size w w' := by
  have hcv := Lib.run_convert_string_bytes (P := Tryd.prog) w 9 49 5 s Tryd.underlying9 Tryd.underlying49 Tryd.underlying5
  have HB0 := Lib.hid ((bytes_new w s).same (fun j hj => hf j (by omega)))
  have HW0 : Hid (Below w.heap.size w (Lib.bytesWorld w 5 s)) := ⟨rfl, rfl, rfl, by rw [Lib.bytesWorld_size]; omega, fun k hk => Lib.bytesWorld_at_old w _ s k hk⟩
  have hc1 := grownCap_ge w s.size 0 5
  have hc2 := grownCap_le_maxLen w s.size 0 5 (by unfold maxLen; omega)
  obtain ⟨c, hc⟩ : ∃ c, grownCap w s.size 0 5 = c := ⟨_, rfl⟩
  obtain ⟨W, hW⟩ : ∃ W, Lib.bytesWorld w 5 s = W := ⟨_, rfl⟩
  rw [hc] at hcv hc1 hc2
  rw [hW] at hcv HB0 HW0
  have HBB := Lib.hid hb
  unfold maxLen at hc2
  rw [hn] at hcv hc1 HB0
  clear hf hb hc hW hn
  go_enter Tryd.func53, Tryd.ntmps53
  go_wp2
  go_loopw [5] (fun pv wr => ∃ (p : Int) (q : Nat), pv = .int .i64 p ∧ -1 ≤ p ∧ p ≤ (n : Int) - 2 ∧ Hid (∀ j : Nat, p < (j : Int) → j + 1 < n → f (j + 1) ≤ f j) ∧ wr = W.drewN q) (fun pv _ => (intOf pv + 1).toNat)
  case atStart => exact ⟨(n : Int) - 2, 0, rfl, by omega, by omega, fun j h1 h2 => by omega, rfl⟩
  case round =>
    obtain ⟨p, q, rfl, hp0, hp1, HN, rfl⟩ := hrel
    by_cases hpn : p < 0
    · have hpF : ((0 : Int) ≤ p) = False := eq_false (by omega)
      have HR : Hid (NoPl f n) := fun j hj => HN.out j (by omega) hj
      clear HN
      go_wp2
      go_quiet (fail)
      go_wp2
      go_ret2
      exact ⟨.inr ⟨HR.out, rfl⟩, below_drewN HW0.out _⟩
    · obtain ⟨k, hk⟩ : ∃ k : Nat, p = (k : Int) := ⟨p.toNat, by omega⟩
      subst hk
      have hpT : ((0 : Int) ≤ (k : Int)) = True := eq_true (by omega)
      have hkn : k + 1 < n := by omega
      have c1 := HB0.out.cell k (by omega)
      have hx := HBB.out k (by omega)
      have hy := HBB.out (k + 1) hkn
      obtain ⟨k1, hk1⟩ : ∃ k1, k + 1 = k1 := ⟨_, rfl⟩
      have HKK := Lib.hid hk1
      have hkk : (k : Int) + 1 = (k1 : Int) := by omega
      have f1 : IntKind.i64.wrap ((k : Int) + 1) = (k1 : Int) := by rw [IntWalk.i64_in] <;> omega
      have f2 : IntKind.i64.wrap (k1 : Int) = (k1 : Int) := by rw [IntWalk.i64_in] <;> omega
      have c2 := HB0.out.cell k1 (by omega)
      have hkI : (k : Int) < (n : Int) := by omega
      have hk1n : k1 < n := by omega
      have hk1I : (k1 : Int) < (n : Int) := by omega
      rw [hk1] at hy
      obtain ⟨x, hxe⟩ : ∃ x, f k = x := ⟨_, rfl⟩
      obtain ⟨y, hye⟩ : ∃ y, f k1 = y := ⟨_, rfl⟩
      rw [hxe] at c1 hx
      rw [hye] at c2 hy
      have HX := Lib.hid hxe
      have HY := Lib.hid hye
      by_cases hxy : y ≤ x
      · have HN' : Hid (∀ j : Nat, (k : Int) - 1 < (j : Int) → j + 1 < n → f (j + 1) ≤ f j) := fun j h1 h2 => by
          by_cases e : j = k
          · subst e; rw [hk1, hye, hxe]; exact hxy
          · exact HN.out j (by omega) h2
        clear hxe hye hk1 HN
        go_wp2
        go_quiet (fail)
        go_wp2
        go_roundw
        case rel => exact ⟨(k : Int) - 1, q + nq, rfl, by omega, by omega, HN', rfl⟩
        case measure => simp [intOf]
      · have hF : (y ≤ x) = False := eq_false hxy
        have HPL : Hid (IsPl f n k) := ⟨hkn, by rw [hk1, hye, hxe]; omega, fun j h1 h2 => HN.out j (by omega) h2⟩
        clear hxe hye hk1 HN hxy
        go_wp2
        go_quiet (fail)
        go_wp2
        clear c2 hy f1 f2
        obtain ⟨q1, hq1⟩ : ∃ q1, q + nq = q1 := ⟨_, rfl⟩
        try rw [hq1]
        clear hq1 hp0 hp1
        go_loopw [6] (fun pv wr => ∃ (p : Int) (q : Nat), pv = .int .i64 p ∧ (k : Int) < p ∧ p ≤ (n : Int) - 1 ∧ Hid (∀ j : Nat, p < (j : Int) → j < n → f j ≤ x) ∧ wr = W.drewN q) (fun pv _ => (intOf pv).toNat)
        case atStart => exact ⟨(n : Int) - 1, q1, rfl, by omega, by omega, fun j h1 h2 => by omega, rfl⟩
        case round =>
          obtain ⟨p, q2, rfl, hp0, hp1, HM, rfl⟩ := hrel
          obtain ⟨o, ho⟩ : ∃ o : Nat, p = (o : Int) := ⟨p.toNat, by omega⟩
          subst ho
          have hon : o < n := by omega
          have honI : (o : Int) < (n : Int) := by omega
          have c3 := HB0.out.cell o hon
          have hz := HBB.out o hon
          obtain ⟨z, hze⟩ : ∃ z, f o = z := ⟨_, rfl⟩
          rw [hze] at c3 hz
          have HZ := Lib.hid hze
          have h64 : IntKind.i64.wrap (o : Int) = (o : Int) := by rw [IntWalk.i64_in] <;> omega
          by_cases hzx : z ≤ x
          · have hT : (z ≤ x) = True := eq_true hzx
            have hok : (k : Int) + 1 < (o : Int) := by
              have : o ≠ k1 := fun e => by
                have h1 := HY.out; have h2 := HZ.out
                rw [e, h1] at h2
                rw [h2] at hF; exact (of_eq_false hF) hzx
              have := HKK.out; omega
            have HM' : Hid (∀ j : Nat, (o : Int) - 1 < (j : Int) → j < n → f j ≤ x) := fun j h1 h2 => by
              by_cases e : j = o
              · subst e; rw [HZ.out]; exact hzx
              · exact HM.out j (by omega) h2
            clear hze HM hzx
            go_wp2
            go_quiet (fail)
            go_wp2
            go_roundw
            case rel => exact ⟨(o : Int) - 1, q2 + nq, rfl, by omega, by omega, HM', rfl⟩
            case measure => simp [intOf]; omega
          · have hT : (z ≤ x) = False := eq_false hzx
            have HOT : Hid (IsOt f n k o) := ⟨by omega, hon, by rw [HX.out, hze]; omega, fun j h1 h2 => by rw [HX.out]; exact HM.out j (by omega) h2⟩
            clear hze HM hzx
            go_wp2
            go_quiet (fail)
            go_wp2
            have c1' : ((W.drewN q2).drewN nq).cell? ⟨w.heap.size, k, none⟩ = some (.int .u8 x) := c1
            have c3' : ((W.drewN q2).drewN nq).cell? ⟨w.heap.size, o, none⟩ = some (.int .u8 z) := c3
            have HBn := Lib.hid ((HB0.out.drewN q2).drewN nq)
            have HWn := Lib.hid (below_drewN (below_drewN HW0.out q2) nq)
            obtain ⟨wo, hwo⟩ : ∃ wo, (W.drewN q2).drewN nq = wo := ⟨_, rfl⟩
            rw [hwo] at c1' c3' HBn HWn
            rw [hwo]
            clear hwo c1 c3 HB0 HW0 hF hT
            have hkn0 : k < n := by omega
            have z1 := HBn.out.fz k hkn0
            have z2 := HBn.out.fz o hon
            have hko : (k : Int) < (o : Int) := hp0
            have HS2 : Hid (BYt ((wo.setCell ⟨w.heap.size, k, none⟩ (.int .u8 z)).setCell ⟨w.heap.size, o, none⟩ (.int .u8 x)) w.heap.size n (xch f k o)) := by
              refine BYt.put (BYt.put (g := fun j => if j = k then z else f j) HBn.out k z hkn0 (fun j _ => rfl)) o x hon (fun j _ => ?_)
              unfold xch
              by_cases e1 : j = k
              · subst e1; rw [if_pos rfl, if_neg (by omega), if_pos rfl]; exact HZ.out
              · rw [if_neg e1]
                by_cases e2 : j = o
                · rw [if_pos e2, if_pos e2]; exact HX.out
                · rw [if_neg e2, if_neg e2, if_neg e1]
            have HGR : Hid (Below w.heap.size w ((wo.setCell ⟨w.heap.size, k, none⟩ (.int .u8 z)).setCell ⟨w.heap.size, o, none⟩ (.int .u8 x))) := Below.grown HWn.out (grownB_set (grownB_set (grownB_refl w.heap.size wo) k _) o _) HWn.out.size (fun k h => by cases h; exact Nat.le_refl _)
            have HCB : Hid (∀ j, j < n → 0 ≤ (fun j => if k1 ≤ j ∧ j < k1 + (n - k1) then xch f k o (k1 + (k1 + (n - k1) - 1) - j) else xch f k o j) j ∧ (fun j => if k1 ≤ j ∧ j < k1 + (n - k1) then xch f k o (k1 + (k1 + (n - k1) - 1) - j) else xch f k o j) j ≤ 255) := fun j hj => by
              have e := nxo_rev (f := f) (o := o) (by rw [HKK.out]; exact hk1n : k + 1 < n) hj
              rw [HKK.out] at e
              have h := nxo_bd HBB.out (by rw [HKK.out]; exact hk1n : k + 1 < n) hon j hj
              rw [e] at h
              show 0 ≤ (if _ then _ else _ : Int) ∧ (if _ then _ else _ : Int) ≤ 255
              omega
            have HNX : Hid (∀ j, j < n → nxo f n k o j = (fun j => if k1 ≤ j ∧ j < k1 + (n - k1) then xch f k o (k1 + (k1 + (n - k1) - 1) - j) else xch f k o j) j) := fun j hj => by
              have e := nxo_rev (f := f) (o := o) (by rw [HKK.out]; exact hk1n : k + 1 < n) hj
              rw [HKK.out] at e
              exact e
            have hsl := fun W => slB w.heap.size n c k1 hk1n hc1 W
            have HRV := Lib.hid (fun W (h : BYt W w.heap.size n (xch f k o)) => rev_any w.heap.size k1 (n - k1) (c - k1) n (xch f k o) W (by omega) (by omega) h)
            go_wp2
            go_region_with (fail)
            all_goals
              have f1 : IntKind.i64.wrap ((k : Int) + 1) = (k1 : Int) := by rw [IntWalk.i64_in] <;> omega
              go_wp2_with (go_at_call 74; (with_reducible refine (HRV.out _ (by first | exact HS2.out | exact HS2.out.drw | exact (HS2.out.drewN _).drewN _ | exact HS2.out.drewN _)).mono ?_); rintro e w2 ⟨rfl, hby, hgr⟩; have HBY := Lib.hid hby; have HG2 := Lib.hid hgr; clear hby hgr; have hcb := conv_back w2 w.heap.size n c _ HBY.out (HCB.out))
              go_ret2
              refine ⟨.inl ⟨k, o, HPL.out, HOT.out, by rw [byL_same (f := nxo f n k o) HNX.out]; rfl⟩, ?_⟩
              refine Below.grown ?_ HG2.out ?_ ?_
              · exact ⟨HGR.out.os, HGR.out.tape, HGR.out.output, HGR.out.size, HGR.out.block⟩
              · exact HGR.out.size
              · intro k h; injection h with h; omega
end Go.Proofs.YtghjpanabphbpaaDoor
