/-
  Least numbers: the model's digits in order, the program's; GreatestSameDigits.
-/
import Derived.Test.YtghjpanabphbpaaDoorLeSrr
import Derived.Test.YtghjpanabphbpaaDoorLeApp
import Derived.Test.YtghjpanabphbpaaDoorLeSl
import Derived.Test.YtghjpanabphbpaaDoorLeNsd
import Derived.Test.YtghjpanabphbpaaDoorLeGo
namespace Go.Proofs.YtghjpanabphbpaaDoor
open Go.RowKit
set_option maxRecDepth 100000

theorem cl_le (f : Nat → Int) (n : Nat) (d : Int) : cl f n d ≤ n := by
  induction n with
  | zero => exact Int.le_refl _
  | succ n ih => rw [cl]; push_cast; split <;> omega
theorem cw_le (f : Nat → Int) (n : Nat) (c : Int) : cw f n c ≤ n := by
  induction n with
  | zero => exact Int.le_refl _
  | succ n ih => rw [cw]; push_cast; split <;> omega
set_option maxHeartbeats 2000000 in
theorem leSorted_any (n : Nat) (s : ByteArray) (w : World) (hn : n ≤ 1000000000000) (hs : s.data.toList = Lib.decDigits n) :
    Calls Tryd.prog 56 #[.int .i64 n] w fun e w' => (∃ v xs, e = .returned v ∧ Ints w.heap.size xs v w' ∧ SoL (dj s) s.size xs 10 0) ∧ Below w.heap.size w w' := by
  have HL := Lib.hid (leList_any n w hn)
  have hdg : digB s.data.toList = true := by rw [hs]; exact dec_dig n
  have hsz : s.size ≤ 13 := by
    have h := dec_13 hn
    rw [← hs] at h
    simpa using h
  have H09 := Lib.hid (dj_09 hdg)
  rw [← hs] at HL
  have hs1' : 1 ≤ s.size := by
    have h := dec_pos n
    rw [← hs] at h
    simpa using h
  obtain ⟨m, hm⟩ : ∃ m, s.size = m := ⟨_, rfl⟩
  have HM : Hid (s.data.toList.length = m) := by show _ = _; rw [← hm]; simp
  rw [hm] at hsz hs1' ⊢
  clear hdg hs
  go_enter Tryd.func56, Tryd.ntmps56
  go_wp2_with (go_at_call 50; refine HL.out.mono ?_; rintro e w1 ⟨⟨v, rfl, hi⟩, b1⟩; rcases hi.form with ⟨ao, cap', rfl, he⟩ | ⟨g, cap, rfl, hgb, hg, hc, _⟩)
  · rw [map_len] at he; have := HM.out; omega
  · rw [map_len] at hc
    have HC : Hid (∀ i, i < m → w1.cell? ⟨g, i, none⟩ = some (.int .i64 (dj s i))) := fun i hi => by
      have h1 := hc i (by rw [HM.out]; exact hi)
      rw [map_getD _ i (by rw [HM.out]; exact hi)] at h1
      exact h1
    have hml : s.data.toList.length = m := HM.out
    try rw [hml]
    try rw [hm]
    have hs1 := b1.size
    clear hc hi
    go_loopw [3, 5] (fun ov dv wr => ∃ (d : Nat) (xs : List Int), dv = .int .i64 d ∧ d ≤ 10 ∧ Hid (Ints w1.heap.size xs ov wr) ∧ Hid (SoL (dj s) m xs d 0) ∧ Hid (Below w1.heap.size w1 wr)) (fun _ dv _ => 10 - (intOf dv).toNat)
    case atStart => exact ⟨0, [], rfl, by omega, World.ownsRow_nil _ _ _ _, SoL.start (fun j => (H09.out j).1) m, Below.refl _ _⟩
    case round =>
      obtain ⟨d, xs, rfl, hd, HI, HS, HB⟩ := hrel
      obtain ⟨wo, rfl⟩ : ∃ wo : World, wo = wr := ⟨_, rfl⟩
      by_cases hlt : d < 10
      · have hltI : (d : Int) < 10 := by omega
        go_wp2
        go_loopw [3, 16] (fun ov kv wr => ∃ (k : Nat) (xs : List Int), kv = .int .i64 k ∧ k ≤ m ∧ Hid (Ints w1.heap.size xs ov wr) ∧ Hid (SoL (dj s) m xs d k) ∧ Hid (Below w1.heap.size w1 wr)) (fun _ kv _ => m - (intOf kv).toNat)
        case atStart => exact ⟨0, xs, rfl, Nat.zero_le _, HI.out, HS.out, HB.out⟩
        case round =>
          obtain ⟨k, xs, rfl, hk, HI, HS, HB⟩ := hrel
          obtain ⟨wo, rfl⟩ : ∃ wo : World, wo = wr := ⟨_, rfl⟩
          by_cases hkm : k < m
          · have c0 := (HB.out.cell (p := ⟨g, k, none⟩) hg).trans (HC.out k hkm)
            have hkI : (k : Int) < (m : Int) := by omega
            obtain ⟨x, hx⟩ : ∃ x, dj s k = x := ⟨_, rfl⟩
            rw [hx] at c0
            by_cases hxd : x = (d : Int)
            · have HS2 := Lib.hid (HS.out.hit (by rw [hx]; exact hxd))
              subst hxd
              have hxl : xs.length ≤ 1000000 := by have h1 := HS.out.len; have h2 := cl_le (dj s) m d; have h3 := cw_le (dj s) k d; omega
              have hBs := HB.out.size
              clear hx
              go_wp2_with (at_builtin; refine wpList_append_int _ rfl _ _ rfl w1.heap.size xs _ rfl (HI.out.alloc _) wo.heap.size (d : Int) rfl (by simp) hxl (by simp; omega) ?_; intro v2 w2 i2 b2 _; have HI2 := Lib.hid i2; have HB2 := Lib.hid (HB.out.trans ((Below.refl _ wo).alloc hBs _ |>.trans b2)); clear i2 b2)
              go_roundw
              case rel => exact ⟨k + 1, _, by go_num, by omega, HI2.out, HS2.out, HB2.out⟩
              case measure => simp [intOf]; omega
            · have HS2 := Lib.hid (HS.out.miss (by rw [hx]; exact hxd))
              have hxF : (x == (d : Int)) = false := beq_eq_false_iff_ne.2 hxd
              clear hx
              go_wp2
              go_roundw
              case rel => exact ⟨k + 1, xs, by go_num, by omega, HI.out, HS2.out, HB.out⟩
              case measure => simp [intOf]; omega
          · have hkF : ((k : Int) < (m : Int)) = False := eq_false (by omega)
            have hkm2 : k = m := by omega
            have HS2 : Hid (SoL (dj s) m xs (d + 1) 0) := SoL.next (by rw [← hkm2]; rw [hkm2]; have := HS.out; rw [hkm2] at this; exact this)
            go_wp2
            go_roundw
            case rel => exact ⟨d + 1, xs, by go_num, by omega, HI.out, HS2.out, HB.out⟩
            case measure => simp [intOf]; omega
      · have hdF : ((d : Int) < 10) = False := eq_false (by omega)
        have hd10 : d = 10 := by omega
        subst hd10
        go_wp2
        go_ret
        exact ⟨⟨_, xs, rfl, HI.out.mono hs1, HS.out⟩, b1.trans (HB.out.mono hs1)⟩
theorem cw_shift {r f : Nat → Int} {n : Nat} (h : ∀ j, j < n → f j = 48 + r j) (c : Int) : cw f n (48 + c) = cw r n c := by
  induction n with
  | zero => rfl
  | succ n ih =>
    rw [cw, cw, ih (fun j hj => h j (by omega)), h n (by omega)]
    by_cases e : r n = c
    · rw [if_pos e, if_pos (by omega)]
    · rw [if_neg e, if_neg (by omega)]
theorem byL_rev (m : Nat) (g : Nat → Int) : (byL m g).reverse = byL m (fun j => g (m - 1 - j)) := by
  apply List.ext_getElem
  · simp [byL]
  · intro i h1 h2
    simp [byL]
/-- Both sort: all that is asked of the digits in order. -/
structure Rsd (f r : Nat → Int) (m : Nat) : Prop where
  dig : ∀ j, 0 ≤ r j ∧ r j ≤ 9
  srt : Srt r 0 m
  cnt : ∀ c, cw r m c = cw f m c
theorem Rsd.uniq {f r q : Nat → Int} {m : Nat} (u : Rsd f r m) (v : Rsd f q m) : ∀ j, j < m → r j = q j := u.srt.uniq v.srt (fun c => by rw [u.cnt, v.cnt])
theorem Rsd.ofSod {w w' : World} {g m : Nat} {f f' : Nat → Int} (hb : ∀ j, 0 ≤ f j ∧ f j ≤ 9) (h : Sod w w' g m 0 m (fun j => 48 + f j) f') : Rsd f (fun j => if j < m then f' j - 48 else 0) m ∧ ∀ j, j < m → 48 ≤ f' j ∧ f' j ≤ 57 := by
  have hr : ∀ j, j < m → 48 ≤ f' j ∧ f' j ≤ 57 := fun j hj => by
    by_cases hc : 48 ≤ f' j ∧ f' j ≤ 57
    · exact hc
    · have h3 := cw_pos (f := f') hj
      rw [h.cnt, cw_zero (fun k _ => by have := hb k; omega)] at h3
      omega
  refine ⟨⟨fun j => ?_, fun j h1 h2 => ?_, fun c => ?_⟩, hr⟩
  · show 0 ≤ (if j < m then f' j - 48 else 0) ∧ (if j < m then f' j - 48 else 0) ≤ 9
    split
    · rename_i hj; have := hr j hj; omega
    · omega
  · show (if j < m then f' j - 48 else 0) ≤ (if j + 1 < m then f' (j + 1) - 48 else 0)
    rw [if_pos (by omega), if_pos h2]
    have := h.srt j h1 h2; omega
  · rw [← cw_shift (f := f') (r := fun j => if j < m then f' j - 48 else 0) (fun j hj => by show f' j = 48 + (if j < m then f' j - 48 else 0); rw [if_pos hj]; omega) c, h.cnt, cw_shift (fun _ _ => rfl) c]
theorem Rsd.ofSoL {f : Nat → Int} {m : Nat} {xs : List Int} (hb : ∀ j, 0 ≤ f j ∧ f j ≤ 9) (h : SoL f m xs 10 0) : Rsd f (gx xs) m ∧ xs.length = m := by
  obtain ⟨h1, h2, h3⟩ := SoL.fin hb h
  refine ⟨⟨fun j => ?_, h2, h3⟩, h1⟩
  by_cases hj : j < m
  · by_cases hc : 0 ≤ gx xs j ∧ gx xs j ≤ 9
    · exact hc
    · have h4 := cw_pos (f := gx xs) hj
      rw [h3, cw_zero (fun k _ => by have := hb k; omega)] at h4
      omega
  · unfold gx
    rw [List.getD_eq_getElem?_getD, List.getElem?_eq_none (by omega)]
    decide
end Go.Proofs.YtghjpanabphbpaaDoor
