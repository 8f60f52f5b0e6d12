/-
  The text that a Replacer of signs by nothing makes.
-/
import Derived.Test.YtpmkdpkegmbleaaRpG
import Derived.Laws.IdiomCopy
namespace Go.Proofs.Ytpmkdpkegmbleaa
open Go.RowKit

theorem sgP_yes {c : UInt8} (h : sgB c = true) : sgP c.toNat := by
  rcases (sgB_iff c).1 h with e | e | e
  · exact .inr (by omega)
  · exact .inl (.inr (by omega))
  · exact .inl (.inl (by omega))
theorem sgP_no {c : UInt8} (h : sgB c = false) : ¬ sgP c.toNat := by
  intro hp
  have : sgB c = true := (sgB_iff c).2 (by
    rcases hp with (e | e) | e
    · exact .inr (.inr (by omega))
    · exact .inr (.inl (by omega))
    · exact .inl (by omega))
  rw [h] at this; cases this
theorem nos_step (l : List UInt8) (k : Nat) (hk : k < l.length) : nos (l.take (k + 1)) = if sgB l[k] then nos (l.take k) else nos (l.take k) ++ [l[k]] := by
  rw [List.take_succ_eq_append_getElem hk, nos_snoc]
theorem nos_lt (l : List UInt8) (k : Nat) (hk : k < l.length) (h : sgB l[k] = false) : (nos (l.take k)).length < (nos l).length := by
  have e : nos l = nos (l.take (k + 1)) ++ nos (l.drop (k + 1)) := by
    unfold nos
    rw [← List.filter_append, List.take_append_drop]
  rw [e, nos_step l k hk, h]
  simp
theorem fill_step (m : List UInt8) (N : Nat) (c : UInt8) (h : m.length < N) : (m ++ List.replicate (N - m.length) 0).set m.length c = (m ++ [c]) ++ List.replicate (N - (m.length + 1)) 0 := by
  rw [List.set_append, if_neg (by omega), Nat.sub_self, show N - m.length = (N - (m.length + 1)) + 1 by omega, List.replicate_succ, List.append_assoc]
  rfl
theorem BRow.drew {w : World} {h : Nat} {l : List UInt8} (hb : BRow w h l) : BRow w.drew h l := ⟨fun j hj => by rw [World.cell?_drew]; exact hb.cell j hj, fun j hj => by have := hb.free j hj; simpa using this, by have := hb.lt; simpa using this⟩
theorem BRow.made (w : World) (N : Nat) : BRow (w.alloc (.cells (madeCells #[.int .u8 0] N) 5)) w.heap.size (List.replicate N 0) := by
  have hr := World.rowIs_made w (.int .u8 0) N 5
  refine ⟨fun j hj => ?_, fun j _ => hr.frozen j, hr.lt⟩
  rw [List.length_replicate] at hj
  rw [hr.cell hj, List.getElem_replicate]; rfl
theorem makeN (w : World) (N : Nat) (h : N ≤ 1000) : (Instr.makeSlice 62 (.int .i64 (N : Int)) (.int .i64 (N : Int))).run Try.prog w = .ok (.slice (some ⟨w.heap.size, 0, none⟩) N N) (w.alloc (.cells (madeCells #[.int .u8 0] N) 5)) :=
  run_make_row' (P := Try.prog) 62 5 (.int .u8 0) 1 Try.underlying62 (by kernel_rfl) rfl .i64 .i64 N (by omega) (by omega) w
theorem copy0 (W : World) (a : Addr) (n c h cc : Nat) : (Builtin.copy_ #[62, 62] 3 #[.slice (some a) n c, .slice (some ⟨h, 0, none⟩) 0 cc]).run Try.prog W = .ok (.int .i64 0) W := by
  have := run_copy_none (P := Try.prog) W 62 62 3 5 (some a) (some ⟨h, 0, none⟩) n c 0 cc Try.underlying62 (by kernel_rfl) (by simp)
  exact this
set_option maxRecDepth 100000 in
set_option maxHeartbeats 4000000 in
theorem rep_plain (s : ByteArray) (g t0 : Nat) (w : World) (hs : s.size ≤ 23) (ht : BRw w g (.slice (some ⟨t0, 0, none⟩) 3 3) sgP) :
    Calls Try.prog 85 #[.pointer (some ⟨g, 0, none⟩), .string s] w fun e w' => e = .returned (.string ⟨(nos s.data.toList).toArray⟩) ∧ Below w.heap.size w w' := by
  have HT := Lib.hid ht
  have hsl : s.data.toList.length = s.size := by simp
  have HSL := Lib.hid hsl
  have c256 := ht.tor
  have HGL := Lib.hid ht.lt
  have hnt : ∀ (W : World) (h n c : Nat), (binOp .neq 62 (.slice (some ⟨h, 0, none⟩) n c) (.slice none 0 0)).run Try.prog W = .ok (.bool true) W := fun _ _ _ _ => rfl
  have hnf : ∀ (W : World), (binOp .neq 62 (.slice none 0 0) (.slice none 0 0)).run Try.prog W = .ok (.bool false) W := fun _ => rfl
  have hcp := copy0
  clear ht hsl
  go_enter Try.func85, Try.ntmps85
  go_wp2
  clear c256
  go_loopw [5, 6, 10] (fun v a i wr => ∃ (k m : Nat) (b : Bool), k ≤ s.size ∧ m ≤ k ∧ i = .int .i64 k ∧ v = .int .i64 ((s.size : Int) - (k : Int) + (m : Int)) ∧ a = .bool b ∧ Hid (m = (nos (s.data.toList.take k)).length) ∧ Hid (b = false → nos (s.data.toList.take k) = s.data.toList.take k) ∧ Hid (wr = w)) (fun _ _ i _ => s.size - (intOf i).toNat)
  case atStart => exact ⟨0, 0, false, Nat.zero_le _, Nat.le_refl _, rfl, val_int (by simp), rfl, rfl, fun _ => rfl, rfl⟩
  case round =>
    obtain ⟨k, m, b, hk, hmk, rfl, rfl, rfl, HM, HB, HW⟩ := hrel
    obtain ⟨wi, rfl⟩ : ∃ wi : World, wi = wr := ⟨_, rfl⟩
    have HTI : Hid (BRw wi g (.slice (some ⟨t0, 0, none⟩) 3 3) sgP) := by show BRw _ _ _ _; rw [HW.out]; exact HT.out
    by_cases hlt : k < s.size
    · obtain ⟨c, hc⟩ : ∃ c, c = s[k] := ⟨_, rfl⟩
      obtain ⟨x, hx⟩ : ∃ x, x = c.toNat := ⟨_, rfl⟩
      have hx2 : s[k].toNat = x := by rw [hx, hc]
      have hkl : k < s.data.toList.length := by rw [HSL.out]; exact hlt
      have HCL : Hid (s.data.toList[k] = c) := by show _ = _; rw [hc]; rfl
      have hx256 : x < 256 := by rw [hx]; exact c.toNat_lt
      have hxi : (x : Int) < 256 := by omega
      have HX := Lib.hid hx
      have HST := Lib.hid (nos_step s.data.toList k hkl)
      clear hx hc
      cases hsg : sgB c with
      | true =>
        obtain ⟨h, cc, hcell⟩ := HTI.out.yes hx256 (by rw [HX.out]; exact sgP_yes hsg)
        have HM2 : Hid (m = (nos (s.data.toList.take (k + 1))).length) := by show _ = _; rw [HST.out, HCL.out, hsg]; exact HM.out
        clear hsg
        go_wp2
        go_roundw
        case rel => exact ⟨k + 1, m, true, by omega, by omega, by go_num, val_int (by go_num), rfl, HM2, fun h => (by cases h), HW⟩
        case measure => simp [intOf]; omega
      | false =>
        have hcell := HTI.out.no hx256 (by rw [HX.out]; exact sgP_no hsg)
        have HM2 : Hid (m + 1 = (nos (s.data.toList.take (k + 1))).length) := by show _ = _; rw [HST.out, HCL.out, hsg]; simp [← HM.out]
        have HB2 : Hid (b = false → nos (s.data.toList.take (k + 1)) = s.data.toList.take (k + 1)) := fun hb => by
          rw [HST.out, HCL.out, hsg, HB.out hb, List.take_succ_eq_append_getElem hkl, HCL.out]; rfl
        clear hsg
        go_wp2
        go_roundw
        case rel => exact ⟨k + 1, m + 1, b, by omega, by omega, by go_num, val_int (by go_num), rfl, HM2, HB2, HW⟩
        case measure => simp [intOf]; omega
    · have hks : k = s.size := by omega
      have HK : Hid (s.data.toList.take k = s.data.toList) := by show _ = _; rw [hks]; exact take_all s
      have hbi : Below w.heap.size w wi := by rw [HW.out]; exact Below.refl _ _
      cases b with
      | false =>
        have HE : Hid (s = ⟨(nos s.data.toList).toArray⟩) := by
          show _ = _
          have := HB.out rfl
          rw [HK.out] at this
          rw [this]
        go_wp2
        go_ret
        exact ⟨ret_strs HE.out, hbi⟩
      | true =>
        obtain ⟨N, hN⟩ : ∃ N, N = (nos s.data.toList).length := ⟨_, rfl⟩
        have hmN : (s.size : Int) - (k : Int) + (m : Int) = (N : Int) := by
          have := HM.out
          rw [HK.out, ← hN] at this
          omega
        have hN23 : N ≤ 23 := by omega
        have HNN := Lib.hid hN
        have hmk2 := makeN wi N (by omega)
        rw [hmN]
        clear hN hmN hks hmk
        go_wp2
        obtain ⟨h, hh⟩ : ∃ h, h = wi.heap.size := ⟨_, rfl⟩
        have hhw : w.heap.size ≤ h := by have := hbi.size; omega
        have HB0 : Hid (BRow (wi.alloc (.cells (madeCells #[.int .u8 0] N) 5)) h (nos (s.data.toList.take 0) ++ List.replicate (N - 0) 0)) := by
          show BRow _ _ _
          rw [hh]; exact BRow.made wi N
        have hb1 : Below w.heap.size w (wi.alloc (.cells (madeCells #[.int .u8 0] N) 5)) := hbi.alloc (by omega) _
        rw [← hh]
        clear hmk2 hh
        go_loopw [13, 14] (fun a i wr => ∃ (k m : Nat), k ≤ s.size ∧ m ≤ N ∧ i = .int .i64 k ∧ a = .int .i64 m ∧ Hid (m = (nos (s.data.toList.take k)).length) ∧ Hid (BRow wr h (nos (s.data.toList.take k) ++ List.replicate (N - m) 0)) ∧ Below w.heap.size w wr) (fun _ i _ => s.size - (intOf i).toNat)
        case atStart => exact ⟨0, 0, Nat.zero_le _, Nat.zero_le _, rfl, rfl, rfl, HB0, hb1⟩
        case round =>
          obtain ⟨k, m, hk, hm, rfl, rfl, HM, HBR, hbl⟩ := hrel
          obtain ⟨wj, rfl⟩ : ∃ wj : World, wj = wr := ⟨_, rfl⟩
          have HTI : Hid (BRw wj g (.slice (some ⟨t0, 0, none⟩) 3 3) sgP) := HT.out.of_block (hbl.block g HGL.out)
          by_cases hlt : k < s.size
          · obtain ⟨c, hc⟩ : ∃ c, c = s[k] := ⟨_, rfl⟩
            obtain ⟨x, hx⟩ : ∃ x, x = c.toNat := ⟨_, rfl⟩
            have hx2 : s[k].toNat = x := by rw [hx, hc]
            have hkl : k < s.data.toList.length := by rw [HSL.out]; exact hlt
            have HCL : Hid (s.data.toList[k] = c) := by show _ = _; rw [hc]; rfl
            have hx256 : x < 256 := by rw [hx]; exact c.toNat_lt
            have hxi : (x : Int) < 256 := by omega
            have HX := Lib.hid hx
            have HST := Lib.hid (nos_step s.data.toList k hkl)
            clear hx hc
            cases hsg : sgB c with
            | true =>
              obtain ⟨h', cc, hcell⟩ := HTI.out.yes hx256 (by rw [HX.out]; exact sgP_yes hsg)
              have HM2 : Hid (m = (nos (s.data.toList.take (k + 1))).length) := by show _ = _; rw [HST.out, HCL.out, hsg]; exact HM.out
              have HBR2 : Hid (BRow wj h (nos (s.data.toList.take (k + 1)) ++ List.replicate (N - m) 0)) := by show BRow _ _ _; rw [HST.out, HCL.out, hsg]; exact HBR.out
              clear hsg
              by_cases hmN : m = N
              · subst hmN
                go_wp2
                go_region_with fail
                all_goals go_wp2
                all_goals go_roundw
                case rel => exact ⟨k + 1, _, by omega, by omega, by go_num, rfl, HM2, HBR2.out.drew, hbl.drew⟩
                case measure => simp [intOf]; omega
              · have hmlt : m < N := by omega
                go_wp2
                go_region_with fail
                all_goals go_wp2
                all_goals go_roundw
                case rel => exact ⟨k + 1, _, by omega, by omega, by go_num, rfl, HM2, HBR2.out.drew, hbl.drew⟩
                case measure => simp [intOf]; omega
            | false =>
              have hcell := HTI.out.no hx256 (by rw [HX.out]; exact sgP_no hsg)
              have hmlt : m < N := by
                rw [HM.out, HNN.out]
                exact nos_lt _ _ hkl (by rw [HCL.out]; exact hsg)
              have HM2 : Hid (m + 1 = (nos (s.data.toList.take (k + 1))).length) := by show _ = _; rw [HST.out, HCL.out, hsg]; simp [← HM.out]
              have hll : m < (nos (s.data.toList.take k) ++ List.replicate (N - m) 0).length := by rw [List.length_append, List.length_replicate, ← HM.out]; omega
              have hbc := HBR.out.cell m hll
              have hbz := HBR.out.free m hll
              have HBR2 : Hid (BRow (wj.setCell ⟨h, m, none⟩ (.int .u8 (x : Int))) h (nos (s.data.toList.take (k + 1)) ++ List.replicate (N - (m + 1)) 0)) := by
                show BRow _ _ _
                have := HBR.out.put m c hll
                have e := fill_step (nos (s.data.toList.take k)) N c (by rw [← HM.out]; exact hmlt)
                rw [← HM.out] at e
                rw [e] at this
                rw [HST.out, HCL.out, hsg, HX.out]
                exact this
              have hb2 : Below w.heap.size w (wj.setCell ⟨h, m, none⟩ (.int .u8 (x : Int))) := hbl.setCell (p := ⟨h, m, none⟩) hhw _
              clear hsg
              go_wp2
              go_roundw
              case rel => exact ⟨k + 1, m + 1, by omega, by omega, by go_num, by go_num, HM2, HBR2, hb2⟩
              case measure => simp [intOf]; omega
          · have hks : k = s.size := by omega
            have HBR2 : Hid (BRow wj h (nos s.data.toList)) := by
              show BRow _ _ _
              have e : s.data.toList.take k = s.data.toList := by rw [hks]; exact take_all s
              have e2 : N - m = 0 := by have := HM.out; rw [e, ← HNN.out] at this; omega
              have := HBR.out
              rw [e, e2] at this
              simpa using this
            have hcv := run_convert_bytes_back (P := Try.prog) wj 62 9 5 ⟨h, 0, none⟩ N (nos s.data.toList) Try.underlying62 Try.underlying5 Try.underlying9 (fun j hj => by
              have hadd : (⟨h, 0, none⟩ : Addr).add j = ⟨h, j, none⟩ := by unfold Addr.add; split <;> simp_all
              rw [hadd]
              exact HBR2.out.cell j hj)
            rw [← HNN.out] at hcv
            go_wp2
            go_ret
            exact ⟨rfl, hbl⟩
end Go.Proofs.Ytpmkdpkegmbleaa
