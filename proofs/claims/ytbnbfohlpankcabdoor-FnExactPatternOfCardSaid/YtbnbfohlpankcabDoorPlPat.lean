/-
  The law of PatternOf.
-/
import Derived.Test.YtbnbfohlpankcabDoorPlBld
namespace Go.Proofs.YtbnbfohlpankcabDoor
open Go.RowKit

theorem byteCells_snoc (l : List UInt8) (c : UInt8) : Lib.byteCells (l ++ [c]) = Lib.byteCells l ++ [.int .u8 c.toNat] := by simp [Lib.byteCells]
theorem isDigits_any (s : ByteArray) (w : World) (hs : s.size ≤ maxLen) :
    Calls Tryd.prog 48 #[.string s] w fun e w' => e = .returned (.bool (digB s.data.toList)) ∧ w = w' := by
  unfold maxLen at hs
  go_enter Tryd.func48, Tryd.ntmps48
  go_wp2
  go_loop [6] (fun i => ∃ k : Nat, k ≤ s.size ∧ i = .int .i64 k ∧ digB (s.data.toList.take k) = true) (fun i => s.size - (intOf i).toNat)
  case atStart => exact ⟨0, Nat.zero_le _, rfl, by simp [digB]⟩
  case round =>
    obtain ⟨k, hk, rfl, hd⟩ := hrel
    have HD := Lib.hid hd; clear hd
    by_cases hlt : k < s.size
    · by_cases hc : 48 ≤ (s[k].toNat : Int) ∧ (s[k].toNat : Int) ≤ 57
      · obtain ⟨hc1, hc2⟩ := hc
        go_wp2
        go_round
        case rel => exact ⟨k + 1, by omega, by go_num, by rw [take_snoc s k hlt, digB_snoc, HD.out, (dgB_iff _).2 ⟨hc1, hc2⟩]; rfl⟩
        case measure => simp [intOf]; omega
      · have hno : digB s.data.toList = false := digB_no s k hlt (by simp [dgB]; omega)
        have HN := Lib.hid hno; clear hno
        by_cases hc1 : (s[k].toNat : Int) < 48
        all_goals
          go_wp2
          go_ret
          exact ⟨ret_bool HN.out.symm, rfl⟩
    · go_wp2
      go_ret
      exact ⟨ret_bool (by rw [← take_all, ← HD.out, show k = s.size by omega]), rfl⟩
def pc (c : UInt8) : UInt8 := if ltB c then 76 else 68
def ptn (l : List UInt8) : List UInt8 := l.map pc
theorem ptn_snoc (s : ByteArray) (k : Nat) (h : k < s.size) : ptn (s.data.toList.take (k + 1)) = ptn (s.data.toList.take k) ++ [pc s[k]] := by rw [take_snoc s k h]; simp [ptn]
theorem pss_get (s : ByteArray) (k : Nat) (hk : k < s.size) (h : pssB s.data.toList = true) : psB s[k] = true := by
  unfold pssB at h
  rw [List.all_eq_true] at h
  exact h _ (List.getElem_mem (by simpa using hk))
def pOf (s : ByteArray) : ByteArray := if szsB s.data.toList 1 8 then ⟨(ptn s.data.toList).toArray⟩ else ⟨#[]⟩
theorem szs_len {l : List UInt8} {a b : Int} (h : szsB l a b = true) : a ≤ (l.length : Int) ∧ (l.length : Int) ≤ b := by
  unfold szsB at h; simp only [Bool.and_eq_true, decide_eq_true_eq] at h; exact h.1
theorem szs_pss {l : List UInt8} {a b : Int} (h : szsB l a b = true) : pssB l = true := by
  unfold szsB at h; simp only [Bool.and_eq_true] at h; exact h.2
theorem app1 (l : List UInt8) (c : UInt8) : (⟨l.toArray⟩ : ByteArray) ++ ⟨#[c]⟩ = ⟨(l ++ [c]).toArray⟩ := by
  apply ByteArray.ext
  simp [ByteArray.data_append]
theorem sPatternOf_any (s : ByteArray) (w : World) (hs : s.size ≤ 1048576) :
    Calls Tryd.prog 21 #[.string s] w fun e w' => e = .returned (.tuple #[.string (pOf s), .bool (szsB s.data.toList 1 8)]) ∧ Below w.heap.size w w' := by
  cases hz : szsB s.data.toList 1 8 with
  | false =>
    have HZ := Lib.hid hz
    clear hz
    go_enter Tryd.func21, Tryd.ntmps21
    go_wp2_with (go_at_call 41; refine (plSigns_b s 1 8 false _ hs HZ.out).mono ?_; rintro e w' ⟨rfl, rfl⟩)
    go_ret2
    exact ⟨ret_sb2 (by unfold pOf; rw [HZ.out]; rfl) rfl, Below.refl _ _⟩
  | true =>
    have HZ := Lib.hid hz
    have HP := Lib.hid (szs_pss hz)
    have hl := szs_len hz
    have hsl : s.data.toList.length = s.size := by simp
    rw [hsl] at hl
    obtain ⟨_, hl8⟩ := hl
    clear hz hsl
    go_enter Tryd.func21, Tryd.ntmps21
    go_wp2_with (go_at_call 41; refine (plSigns_b s 1 8 true _ hs HZ.out).mono ?_; rintro e w' ⟨rfl, rfl⟩)
    go_loop [4, 5] (fun o i => ∃ (k : Nat) (acc : List UInt8), k ≤ s.size ∧ i = .int .i64 k ∧ o = .string ⟨acc.toArray⟩ ∧ acc.length = k ∧ Hid (acc = ptn (s.data.toList.take k))) (fun _ i => s.size - (intOf i).toNat)
    case atStart => exact ⟨0, [], Nat.zero_le _, rfl, rfl, rfl, rfl⟩
    case round =>
      obtain ⟨k, acc, hk, rfl, rfl, hal, HA⟩ := hrel
      have hno : ¬ 9223372036854775807 < acc.length + 1 := by omega
      by_cases hlt : k < s.size
      · have hps := pss_get s k hlt HP.out
        have hcl := (psB_iff _).1 hps
        have HE := Lib.hid (ptn_snoc s k hlt)
        by_cases hc : 65 ≤ (s[k].toNat : Int)
        · have HPC : Hid (pc s[k] = 76) := by
            show _ = _
            unfold pc ltB; rw [if_pos (by simp only [decide_eq_true_eq]; omega)]
          clear hps hcl
          go_wp2
          go_round
          case rel => exact ⟨k + 1, acc ++ [76], by omega, by go_num, by rw [← app1], by simp [hal], by show _ = _; rw [HE.out, HPC.out, HA.out]⟩
          case measure => simp [intOf]; omega
        · have HPC : Hid (pc s[k] = 68) := by
            show _ = _
            unfold pc ltB; rw [if_neg (by simp only [decide_eq_true_eq]; omega)]
          clear hps hcl
          go_wp2
          go_round
          case rel => exact ⟨k + 1, acc ++ [68], by omega, by go_num, by rw [← app1], by simp [hal], by show _ = _; rw [HE.out, HPC.out, HA.out]⟩
          case measure => simp [intOf]; omega
      · have HK : Hid (acc = ptn s.data.toList) := by show _ = _; rw [HA.out, show k = s.size by omega, take_all]
        go_wp2
        go_ret2
        exact ⟨ret_sb2 (by unfold pOf; rw [HZ.out, HK.out]; rfl) rfl, Below.refl _ _⟩
theorem ext1 (s : ByteArray) (k : Nat) (h : k < s.size) : (s.extract k (k + 1)).data.toList = [s[k]] := by
  rw [Lib.extract_data, show k + 1 - k = 1 by omega]
  rw [List.drop_eq_getElem_cons (by simpa using h)]
  rfl
set_option maxHeartbeats 1000000 in
theorem iPatternOf_any (s : ByteArray) (w : World) (hs : s.size ≤ 1048576) :
    Calls Tryd.prog 22 #[.string s] w fun e w' => e = .returned (.tuple #[.string (pOf s), .bool (szsB s.data.toList 1 8)]) ∧ Below w.heap.size w w' := by
  cases hz : szsB s.data.toList 1 8 with
  | false =>
    have HZ := Lib.hid hz
    clear hz
    go_enter Tryd.func22, Tryd.ntmps22
    go_wp2_with (go_at_call 47; refine (arePl_b s 1 8 false _ hs HZ.out).mono ?_; rintro e w1 ⟨rfl, b1⟩)
    go_ret2
    exact ⟨ret_sb2 (by unfold pOf; rw [HZ.out]; rfl) rfl, b1⟩
  | true =>
    have HZ := Lib.hid hz
    have HP := Lib.hid (szs_pss hz)
    have hl := szs_len hz
    have hsl : s.data.toList.length = s.size := by simp
    rw [hsl] at hl
    obtain ⟨_, hl8⟩ := hl
    clear hz hsl
    go_enter Tryd.func22, Tryd.ntmps22
    go_wp2_with (go_at_call 47; refine (arePl_b s 1 8 true _ hs HZ.out).mono ?_; rintro e w1 ⟨rfl, b1⟩)
    obtain ⟨g, hg⟩ : ∃ g, g = w1.heap.size := ⟨_, rfl⟩
    have HBF : Hid (Lib.IsBuilder 57 5 g g (Lib.byteCells []) (w1.alloc (.cells #[.pointer none, .slice none 0 0] 57))) := by
      show Lib.IsBuilder _ _ _ _ _ _
      rw [hg]; exact Lib.fresh_isBuilder 57 5 w1
    have HB1 : Hid (Below w.heap.size w (w1.alloc (.cells #[.pointer none, .slice none 0 0] 57))) := b1.alloc b1.size _
    have hgz : g ≤ (w1.alloc (.cells #[.pointer none, .slice none 0 0] 57)).heap.size := by rw [hg]; simp
    have HWG : Hid (w.heap.size ≤ g) := by show _ ≤ _; rw [hg]; exact b1.size
    rw [← hg]
    clear b1 hg
    go_loopw [11] (fun i wr => ∃ k : Nat, k ≤ s.size ∧ i = .int .i64 k ∧ Hid (Lib.IsBuilder 57 5 g g (Lib.byteCells (ptn (s.data.toList.take k))) wr) ∧ Hid (Below w.heap.size w wr) ∧ g ≤ wr.heap.size) (fun i _ => s.size - (intOf i).toNat)
    case atStart => exact ⟨0, Nat.zero_le _, rfl, HBF, HB1, hgz⟩
    case round =>
      obtain ⟨k, hk, rfl, HB, HBL, hgs⟩ := hrel
      by_cases hlt : k < s.size
      · have hps := pss_get s k hlt HP.out
        have hcl := (psB_iff _).1 hps
        have HE := Lib.hid (ptn_snoc s k hlt)
        have hx := ext1 s k hlt
        have hxs : (s.extract k (k + 1)).size ≤ maxLen := by simp; unfold maxLen; omega
        have hlen : (Lib.byteCells (ptn (s.data.toList.take k))).length + 1 ≤ 140737488355328 := by simp [Lib.byteCells, ptn]; omega
        have HXS := Lib.hid hxs
        have HLEN := Lib.hid hlen
        have hdd := isDigits_any (s.extract k (k + 1))
        rw [hx] at hdd
        clear hxs hlen
        cases hc : ltB s[k] with
        | true =>
          have HPC : Hid (pc s[k] = 76) := by show _ = _; unfold pc; rw [hc]; rfl
          have hdg : digB [s[k]] = false := by
            have h1 : 65 ≤ (s[k].toNat : Int) ∧ (s[k].toNat : Int) ≤ 90 := by unfold ltB at hc; simpa using hc
            simp only [digB, List.all_cons, List.all_nil, Bool.and_true, dgB, decide_eq_false_iff_not]; omega
          rw [hdg] at hdd
          have hkk : (k : Int) < (s.size : Int) := by omega
          clear hps hcl hx hdg hc
          go_wp2_with (first | (go_at_call 48; refine (hdd _ HXS.out).mono ?_; rintro e w2 ⟨rfl, rfl⟩) | (go_at_call 49; go_must (refine (wb_any g _ _ _ _ HB.out HLEN.out hgs).mono ?_); rintro e w3 ⟨rfl, h3, b3, _⟩; have H3 := Lib.hid h3; have hz := b3.size; have HB3 := Lib.hid (HBL.out.trans (b3.mono HWG.out)); clear b3 h3))
          go_roundw
          case rel => exact ⟨k + 1, by omega, by go_num, by show Lib.IsBuilder _ _ _ _ _ _; rw [HE.out, byteCells_snoc, HPC.out]; exact .inr H3.out, HB3, by omega⟩
          case measure => simp [intOf]; omega
        | false =>
          have HPC : Hid (pc s[k] = 68) := by show _ = _; unfold pc; rw [hc]; rfl
          have hdg : digB [s[k]] = true := by
            have h1 : ¬ (65 ≤ (s[k].toNat : Int) ∧ (s[k].toNat : Int) ≤ 90) := by unfold ltB at hc; simpa using hc
            simp only [digB, List.all_cons, List.all_nil, Bool.and_true, dgB, decide_eq_true_eq]; omega
          rw [hdg] at hdd
          have hkk : (k : Int) < (s.size : Int) := by omega
          clear hps hcl hx hdg hc
          go_wp2_with (first | (go_at_call 48; refine (hdd _ HXS.out).mono ?_; rintro e w2 ⟨rfl, rfl⟩) | (go_at_call 49; go_must (refine (wb_any g _ _ _ _ HB.out HLEN.out hgs).mono ?_); rintro e w3 ⟨rfl, h3, b3, _⟩; have H3 := Lib.hid h3; have hz := b3.size; have HB3 := Lib.hid (HBL.out.trans (b3.mono HWG.out)); clear b3 h3))
          go_roundw
          case rel => exact ⟨k + 1, by omega, by go_num, by show Lib.IsBuilder _ _ _ _ _ _; rw [HE.out, byteCells_snoc, HPC.out]; exact .inr H3.out, HB3, by omega⟩
          case measure => simp [intOf]; omega
      · have HK : Hid (ptn (s.data.toList.take k) = ptn s.data.toList) := by show _ = _; rw [show k = s.size by omega, take_all]
        have hkk : ¬ (k : Int) < (s.size : Int) := by omega
        go_wp2_with (go_at_call 50; go_must (refine (bstr_any g _ _ _ HB.out hgs).mono ?_); rintro e w3 ⟨rfl, b3⟩)
        go_ret2
        exact ⟨ret_sb2 (by unfold pOf; rw [HZ.out, HK.out]; rfl) rfl, HBL.out.trans (b3.mono HWG.out)⟩
theorem FnExactPatternOf_law (s : ByteArray) (hs : s.size ≤ maxLen) (w : World) :
    Calls Tryd.prog 6 #[.string s] w fun e w' => e = .returned (.bool true) ∧ Below w.heap.size w w' := by
  unfold maxLen at hs
  by_cases hb : s.size ≤ 1048576
  · obtain ⟨x, hx⟩ : ∃ x, x = pOf s := ⟨_, rfl⟩
    obtain ⟨y, hy⟩ : ∃ y, y = szsB s.data.toList 1 8 := ⟨_, rfl⟩
    have h1 := fun w => sPatternOf_any s w hb
    have h2 := fun w => iPatternOf_any s w hb
    rw [← hx, ← hy] at h1 h2
    clear hx hy
    go_enter Tryd.func6, Tryd.ntmps6
    go_wp2_with (first | (go_at_call 21; (with_reducible refine (h1 _).mono ?_); rintro e w1 ⟨rfl, b1⟩) | (go_at_call 22; (with_reducible refine (h2 _).mono ?_); rintro e w2 ⟨rfl, b2⟩))
    go_ret
    exact ⟨rfl, chain b1 b2⟩
  · go_enter Tryd.func6, Tryd.ntmps6
    go_wp2_with fail
    go_ret
    exact ⟨rfl, Below.refl _ _⟩
end Go.Proofs.YtbnbfohlpankcabDoor
