/-
  A table of bytes put to a text.
-/
import Derived.Test.YtpmkdpkegmbleaaRpC
import Derived.Lib.ConvBytes
import Derived.Laws.IdiomStrings
namespace Go.Proofs.Ytpmkdpkegmbleaa
open Go.RowKit

/-- A row whose first cells are these bytes; they may be written. -/
structure BRow (w : World) (h : Nat) (l : List UInt8) : Prop where
  cell : ∀ j (hj : j < l.length), w.cell? ⟨h, j, none⟩ = some (.int .u8 (l[j].toNat : Int))
  free : ∀ j, j < l.length → w.frozen? ⟨h, j, none⟩ = false
  lt : h < w.heap.size
theorem BRow.put {w : World} {h : Nat} {l : List UInt8} (hb : BRow w h l) (i : Nat) (c : UInt8) (hi : i < l.length) : BRow (w.setCell ⟨h, i, none⟩ (.int .u8 (c.toNat : Int))) h (l.set i c) := by
  refine ⟨fun j hj => ?_, fun j hj => ?_, ?_⟩
  · rw [List.length_set] at hj
    by_cases e : i = j
    · subst e
      rw [World.cell?_setCell_same _ _ _ (hb.cell i hi)]
      simp
    · rw [World.cell?_setCell_other _ _ _ _ (fun h => e (by injection h)), hb.cell j hj]
      simp [e]
  · rw [List.length_set] at hj
    rw [← hb.free j hj]
    simp
  · have := hb.lt
    simpa [World.setCell] using this
theorem BRow.congr {w : World} {h : Nat} {l m : List UInt8} (hb : BRow w h l) (e : l = m) : BRow w h m := e ▸ hb
theorem below_bytes (w : World) (e : TypeId) (s : ByteArray) : Below w.heap.size w (Lib.bytesWorld w e s) := by
  refine ⟨rfl, rfl, rfl, ?_, fun k hk => Lib.bytesWorld_at_old w e s k hk⟩
  rw [Lib.bytesWorld_size]; omega
theorem BRow.of_bytes (w : World) (e : TypeId) (s : ByteArray) : BRow (Lib.bytesWorld w e s) w.heap.size s.data.toList := by
  refine ⟨fun j hj => ?_, fun j hj => ?_, ?_⟩
  · have hj' : j < s.size := by simpa using hj
    rw [Lib.bytesWorld_cell w e s j hj', List.getD_eq_getElem?_getD, List.getElem?_eq_getElem hj]
    rfl
  · have hj' : j < s.size := by simpa using hj
    have hs : s.size ≤ (Lib.bytesCells w e s).size := by simp [Lib.bytesCells]
    simp [World.frozen?, Lib.bytesWorld_at_new]
    omega
  · rw [Lib.bytesWorld_size]; omega
theorem ret_strs {a b : ByteArray} (h : a = b) : Ending.returned (.string a) = .returned (.string b) := by rw [h]
theorem map_step (tb : UInt8 → UInt8) (l : List UInt8) (k : Nat) (hk : k < l.length) : ((l.take k).map tb ++ l.drop k).set k (tb l[k]) = (l.take (k + 1)).map tb ++ l.drop (k + 1) := by
  have e1 : ((l.take k).map tb).length = k := by simp; omega
  rw [List.set_append, if_neg (by omega), e1, Nat.sub_self, List.drop_eq_getElem_cons hk, List.take_succ_eq_append_getElem hk, List.map_append, List.append_assoc]
  rfl
theorem map_same (tb : UInt8 → UInt8) (l : List UInt8) (k : Nat) (hk : k < l.length) (h : (l.take k).map tb = l.take k) (e : tb l[k] = l[k]) : (l.take (k + 1)).map tb = l.take (k + 1) := by
  rw [List.take_succ_eq_append_getElem hk, List.map_append, h, List.map_singleton, e]
theorem map_kept (tb : UInt8 → UInt8) (l : List UInt8) (k : Nat) (hk : k < l.length) (e : tb l[k] = l[k]) : (l.take k).map tb ++ l.drop k = (l.take (k + 1)).map tb ++ l.drop (k + 1) := by
  rw [List.drop_eq_getElem_cons hk, List.take_succ_eq_append_getElem hk, List.map_append, List.append_assoc, List.map_singleton, e]; rfl
set_option maxRecDepth 100000 in
set_option maxHeartbeats 1600000 in
theorem rep_bytes (s : ByteArray) (g : Nat) (f : Nat → Int) (tb : UInt8 → UInt8) (hf : ∀ c : UInt8, f c.toNat = ((tb c).toNat : Int)) (w : World) (hs : s.size ≤ 1000000) (ht : TRow w g f) :
    Calls Try.prog 83 #[.pointer (some ⟨g, 0, none⟩), .string s] w fun e w' => e = .returned (.string ⟨(s.data.toList.map tb).toArray⟩) ∧ Below w.heap.size w w' := by
  have HT := Lib.hid ht
  have HF := Lib.hid hf
  have hsl : s.data.toList.length = s.size := by simp
  have HSL := Lib.hid hsl
  have HGL := Lib.hid ht.lt
  have hnil : ∀ (W : World) (h n c : Nat), (binOp .eql 62 (.slice (some ⟨h, 0, none⟩) n c) (.slice none 0 0)).run Try.prog W = .ok (.bool false) W := fun _ _ _ _ => rfl
  have hnn : ∀ (W : World), (binOp .eql 62 (.slice none 0 0) (.slice none 0 0)).run Try.prog W = .ok (.bool true) W := fun _ => rfl
  clear ht hf hsl
  go_enter Try.func83, Try.ntmps83
  go_wp2
  go_loopw [5, 6] (fun v i wr => ∃ (k : Nat), k ≤ s.size ∧ i = .int .i64 k ∧ Below w.heap.size w wr ∧ ((v = .slice none 0 0 ∧ Hid ((s.data.toList.take k).map tb = s.data.toList.take k)) ∨ ∃ h cap, v = .slice (some ⟨h, 0, none⟩) s.size cap ∧ w.heap.size ≤ h ∧ Hid (BRow wr h ((s.data.toList.take k).map tb ++ s.data.toList.drop k)))) (fun _ i _ => s.size - (intOf i).toNat)
  case atStart => exact ⟨0, Nat.zero_le _, rfl, Below.refl _ _, .inl ⟨rfl, by show _ = _; simp⟩⟩
  case round =>
    obtain ⟨k, hk, rfl, hbl, hor⟩ := hrel
    obtain ⟨wi, rfl⟩ : ∃ wi : World, wi = wr := ⟨_, rfl⟩
    have hws := hbl.size
    by_cases hlt : k < s.size
    · obtain ⟨c, hc⟩ : ∃ c, c = s[k] := ⟨_, rfl⟩
      obtain ⟨x, hx⟩ : ∃ x, x = c.toNat := ⟨_, rfl⟩
      have hx2 : s[k].toNat = x := by rw [hx, hc]
      have hkl : k < s.data.toList.length := by rw [HSL.out]; exact hlt
      have HCL : Hid (s.data.toList[k] = c) := by show _ = _; rw [hc]; rfl
      have hx256 : x < 256 := by rw [hx]; exact c.toNat_lt
      have htc := (HT.out.below hbl HGL.out).cell hx256
      have HFX : Hid (f x = ((tb c).toNat : Int)) := by show _ = _; rw [hx]; exact HF.out c
      have HX := Lib.hid hx
      rw [HFX.out] at htc
      have hxi : (x : Int) < 256 := by omega
      clear hx hc
      by_cases he : tb c = c
      · have HE : Hid (tb s.data.toList[k] = s.data.toList[k]) := by show _ = _; rw [HCL.out]; exact he
        rw [he, ← HX.out] at htc
        clear he
        rcases hor with ⟨rfl, HM⟩ | ⟨h, cap, rfl, hh, HB⟩
        · have HM2 := Lib.hid (map_same tb _ k hkl HM.out HE.out)
          go_wp2
          go_roundw
          case rel => exact ⟨k + 1, by omega, by go_num, hbl, .inl ⟨rfl, HM2⟩⟩
          case measure => simp [intOf]; omega
        · have HB2 : Hid (BRow wi h ((s.data.toList.take (k + 1)).map tb ++ s.data.toList.drop (k + 1))) := HB.out.congr (map_kept tb _ k hkl HE.out)
          go_wp2
          go_roundw
          case rel => exact ⟨k + 1, by omega, by go_num, hbl, .inr ⟨h, cap, rfl, hh, HB2⟩⟩
          case measure => simp [intOf]; omega
      · obtain ⟨y, hy⟩ : ∃ y : Int, y = ((tb c).toNat : Int) := ⟨_, rfl⟩
        have hne : ¬ y = (x : Int) := by
          rw [hy, HX.out]
          intro e
          exact he (UInt8.toNat_inj.1 (by omega))
        rw [← hy] at htc
        have HY := Lib.hid hy
        clear hy he
        rcases hor with ⟨rfl, HM⟩ | ⟨h, cap, rfl, hh, HB⟩
        · have hcv := Lib.run_convert_string_bytes (P := Try.prog) wi 9 62 5 s Try.underlying9 Try.underlying62 Try.underlying5
          have hbr := BRow.of_bytes wi 5 s
          have hbc := hbr.cell k hkl
          have hbz := hbr.free k hkl
          have hb1 := hbl.trans ((below_bytes wi 5 s).mono hws)
          have HB2 : Hid (BRow ((Lib.bytesWorld wi 5 s).setCell ⟨wi.heap.size, k, none⟩ (.int .u8 y)) wi.heap.size ((s.data.toList.take (k + 1)).map tb ++ s.data.toList.drop (k + 1))) := by
            show BRow _ _ _
            rw [HY.out, ← map_step tb _ k hkl, HCL.out, HM.out, List.take_append_drop]
            exact hbr.put k _ hkl
          have hb2 : Below w.heap.size w ((Lib.bytesWorld wi 5 s).setCell ⟨wi.heap.size, k, none⟩ (.int .u8 y)) := hb1.setCell (p := ⟨wi.heap.size, k, none⟩) hws _
          have htc2 : (Lib.bytesWorld wi 5 s).cell? ⟨g, x, none⟩ = some (.int .u8 y) := by
            rw [Lib.bytesWorld_old _ _ _ _ (show g < wi.heap.size by have := HGL.out; omega)]; exact htc
          have HBR := Lib.hid hbr
          clear hbr hb1
          go_wp2
          go_roundw
          case rel => exact ⟨k + 1, by omega, by go_num, hb2, .inr ⟨_, _, rfl, hws, HB2⟩⟩
          case measure => simp [intOf]; omega
        · have hbc := HB.out.cell k (by simp; omega)
          have hbz := HB.out.free k (by simp; omega)
          have HB2 : Hid (BRow (wi.setCell ⟨h, k, none⟩ (.int .u8 y)) h ((s.data.toList.take (k + 1)).map tb ++ s.data.toList.drop (k + 1))) := by
            show BRow _ _ _
            rw [HY.out, ← map_step tb _ k hkl, HCL.out]
            exact HB.out.put k _ (by simp; omega)
          have hb2 : Below w.heap.size w (wi.setCell ⟨h, k, none⟩ (.int .u8 y)) := hbl.setCell (p := ⟨h, k, none⟩) hh _
          go_wp2
          go_roundw
          case rel => exact ⟨k + 1, by omega, by go_num, hb2, .inr ⟨h, cap, rfl, hh, HB2⟩⟩
          case measure => simp [intOf]; omega
    · have hks : k = s.size := by omega
      subst hks
      rcases hor with ⟨rfl, HM⟩ | ⟨h, cap, rfl, hh, HB⟩
      · have HE : Hid (s = ⟨(s.data.toList.map tb).toArray⟩) := by
          show _ = _
          have := HM.out
          rw [List.take_of_length_le (by rw [HSL.out]; exact Nat.le_refl _)] at this
          rw [this]
        go_wp2
        go_ret
        exact ⟨ret_strs HE.out, hbl⟩
      · have HB2 : BRow wi h (s.data.toList.map tb) := HB.out.congr (by rw [List.take_of_length_le (by rw [HSL.out]; exact Nat.le_refl _), List.drop_eq_nil_of_le (by rw [HSL.out]; exact Nat.le_refl _), List.append_nil])
        have hml : (s.data.toList.map tb).length = s.size := by simp
        have hcv := run_convert_bytes_back (P := Try.prog) wi 62 9 5 ⟨h, 0, none⟩ cap (s.data.toList.map tb) Try.underlying62 Try.underlying5 Try.underlying9 (fun j hj => by
          have hadd : (⟨h, 0, none⟩ : Addr).add j = ⟨h, j, none⟩ := by unfold Addr.add; split <;> simp_all
          rw [hadd]
          exact HB2.cell j hj)
        rw [hml] at hcv
        clear HB2
        go_wp2
        go_ret
        exact ⟨rfl, hbl⟩
end Go.Proofs.Ytpmkdpkegmbleaa
