/-
  The tail behind one sign more.
-/
import Derived.Test.YtaomcimmhlpflaaDoorPlTl
import Derived.Test.YtaomcimmhlpflaaDoorShelf
import Derived.Laws.Runes
namespace Go.Proofs.YtaomcimmhlpflaaDoor
open Go.RowKit

theorem enc_ascii (c : UInt8) (h : c.toNat < 128) : Utf8.encode (c.toNat : Int) = ⟨#[c]⟩ := by
  have hv : Utf8.valid (c.toNat : Int) = true := by unfold Utf8.valid; simp; omega
  unfold Utf8.encode
  simp only [hv, if_true, Int.toNat_natCast, h]
  simp
theorem hsuf_b (s p : ByteArray) (r : Bool) (w : World) (hs : s.size ≤ 1048576) (h : p.data.toList.isSuffixOf s.data.toList = r) :
    Calls Tryd.prog 110 #[.string s, .string p] w fun e w' => e = .returned (.bool r) ∧ w' = w := by
  subst h
  exact Tryd.strings_HasSuffix s p w (by omega)
theorem ext1 (x : ByteArray) (c : UInt8) (r : List UInt8) (h : x.data.toList = c :: r) : (x.extract 1 x.size).data.toList = r := by
  have hl : x.data.toList.length = x.size := by simp
  simp [ByteArray.data_extract]
  rw [h]
  rw [h] at hl
  simp at hl ⊢
  rw [List.take_of_length_le (by omega)]
set_option maxRecDepth 100000 in
set_option maxHeartbeats 4000000 in
theorem tailBehind_any (ts : List (List UInt8)) (v v2 v3 : Value) (b N : Nat) (u : ByteArray) (c : UInt8) (w : World) (hn : ts.length ≤ 3) (hu : u.size ≤ 1000) (hc : c.toNat < 128) (h : Rd ts v w) (hS : SetM w b N (fun t => decide (t = []) || beg ts t)) :
    Calls Tryd.prog 81 #[.agg #[v, .map (some b), v2, v3], .string u, .int .u8 (c.toNat : Int)] w fun e w' => e = .returned (.tuple #[.string (if qSuf ts (u.data.toList ++ [c]) = true then ⟨(stt ts (u.data.toList ++ [c])).toArray⟩ else ⟨#[]⟩), .bool (qSuf ts (u.data.toList ++ [c]))]) ∧ Below w.heap.size w w' := by
  have HV := Lib.hid h
  have HS := Lib.hid hS
  obtain ⟨a, cap, rfl, _⟩ := h
  obtain ⟨n, hnn⟩ : ∃ n, n = ts.length := ⟨_, rfl⟩
  have HN := Lib.hid hnn
  rw [← hnn] at hn
  rw [← hnn]
  clear hnn hS
  have henc := enc_ascii c hc
  obtain ⟨T, hT⟩ : ∃ T, T = u.data.toList ++ [c] := ⟨_, rfl⟩
  obtain ⟨R, hR⟩ : ∃ R, R = qSuf ts T := ⟨_, rfl⟩
  obtain ⟨Z, hZ⟩ : ∃ Z : ByteArray, Z = if R = true then ⟨(stt ts T).toArray⟩ else ⟨#[]⟩ := ⟨_, rfl⟩
  rw [← hT, ← hR, ← hZ]
  have HZ := Lib.hid hZ
  clear hZ
  have HT := Lib.hid hT
  have HR := Lib.hid hR
  clear hT hR
  go_enter Tryd.func81, Tryd.ntmps81
  go_wp2_with fail
  obtain ⟨X, hX⟩ : ∃ X, X = u ++ (⟨#[c]⟩ : ByteArray) := ⟨_, rfl⟩
  rw [← hX]
  have HXT : Hid (X.data.toList = T) := by show _ = _; rw [hX, HT.out]; simp
  have hc1 : (⟨#[c]⟩ : ByteArray).size = 1 := rfl
  have hXs : X.size ≤ 1001 := by rw [hX, ByteArray.size_append, hc1]; omega
  have hXs' : X.data.toList.length = X.size := by simp
  have HXL := Lib.hid hXs'
  clear hX hXs' henc hc1
  obtain ⟨W, hW⟩ : ∃ W, W = w.alloc (.cells #[.slice a n cap, .map (some b), v2, v3] 58) := ⟨_, rfl⟩
  have HB : Hid (Below w.heap.size w W) := by show Below _ _ _; rw [hW]; exact (Below.refl _ _).alloc (Nat.le_refl _) _
  have hW1 : W.cell? ⟨w.heap.size, 1, none⟩ = some (.map (some b)) := by rw [hW]; simp [go_sem]
  have HV2 : Hid (Rd ts (.slice a ts.length cap) W) := HV.out.below HB.out
  have HS2 : Hid (SetM W b N (fun t => decide (t = []) || beg ts t)) := HS.out.below HB.out
  obtain ⟨b0, hb0⟩ : ∃ b0, b0 = w.heap.size := ⟨_, rfl⟩
  rw [← hW]
  rw [← hb0] at hW1 ⊢
  have HB0 := Lib.hid hb0
  clear hW hb0
  go_loopw [18] (fun i wr => ∃ k : Nat, k ≤ n ∧ i = .int .i64 k ∧ W = wr ∧ Hid (∀ j, j < k → ¬ (ts.getD j []) <:+ T)) (fun i _ => n - (intOf i).toNat)
  case atStart => exact ⟨0, Nat.zero_le _, rfl, rfl, fun j hj => by omega⟩
  case round =>
    obtain ⟨k, hk, rfl, rfl, HJ⟩ := hrel
    by_cases hlt : k < n
    · have hlt2 : k < ts.length := by rw [← HN.out]; exact hlt
      obtain ⟨a', cap', hv', hcs⟩ := HV2.out
      have ha' : a = a' := by simp only [Value.slice.injEq] at hv'; exact hv'.1
      obtain ⟨g, o, hgo, hg, hcell⟩ := hcs k hlt2
      rw [← ha'] at hgo
      clear hv' ha'
      subst hgo
      obtain ⟨bb, hbb⟩ : ∃ bb : ByteArray, bb = ⟨(ts.getD k []).toArray⟩ := ⟨_, rfl⟩
      have hbd : bb.data.toList = ts.getD k [] := by rw [hbb]
      have HBD := Lib.hid hbd
      unfold strV at hcell
      rw [← hbb] at hcell
      have hltI : (k : Int) < (n : Int) := by omega
      have hk0 : (0 : Int) ≤ (k : Int) := by omega
      clear hcs hbb hbd
      by_cases hsf : (ts.getD k []) <:+ T
      · have HQ : Hid (bb.data.toList.isSuffixOf X.data.toList = true) := by show _ = _; rw [HBD.out, HXT.out]; exact List.isSuffixOf_iff_suffix.2 hsf
        have HRF : Hid (R = false) := by show _ = _; rw [HR.out]; exact qSuf_no (getD_len hlt2) hsf
        clear hsf
        go_wp2_with (go_at_call 110; refine (hsuf_b X bb true _ (by omega) HQ.out).mono ?_; rintro e w' ⟨rfl, rfl⟩)
        go_ret2
        refine ⟨?_, HB.out⟩
        have hz : Z = ⟨#[]⟩ := by rw [HZ.out, HRF.out]; rfl
        rw [hz, HRF.out]; rfl
      · have HQ : Hid (bb.data.toList.isSuffixOf X.data.toList = false) := by
          show _ = _
          rw [HBD.out, HXT.out, Bool.eq_false_iff, ne_eq, List.isSuffixOf_iff_suffix]; exact hsf
        have HJ3 : Hid (∀ j, j < k + 1 → ¬ (ts.getD j []) <:+ T) := by
          intro j hj
          by_cases e : j = k
          · subst e; exact hsf
          · exact HJ.out j (by omega)
        clear hsf
        go_wp2_with (go_at_call 110; refine (hsuf_b X bb false _ (by omega) HQ.out).mono ?_; rintro e w' ⟨rfl, rfl⟩)
        go_roundw
        case rel => exact ⟨k + 1, by omega, by go_num, by first | trivial | rfl, HJ3⟩
        case measure => simp [intOf]; omega
    · have hltI : ¬ (k : Int) < (n : Int) := by omega
      have HRT : Hid (R = true) := by
        show _ = _
        rw [HR.out]
        refine qSuf_yes (fun x hx => ?_)
        obtain ⟨j, hj, rfl⟩ := List.getElem_of_mem hx
        have he : ts.getD j [] = ts[j] := by rw [List.getD_eq_getElem?_getD, List.getElem?_eq_getElem hj]; rfl
        rw [← he]
        exact HJ.out j (by have := HN.out; omega)
      go_wp2
      go_loopg [8] X.size (fun m o wr => ∃ x : ByteArray, o = .string x ∧ x.size = m ∧ m ≤ 1001 ∧ W = wr ∧ Hid (stt ts T = stt ts x.data.toList))
      case atStart => exact ⟨X, rfl, by first | trivial | rfl, by omega, by first | trivial | rfl, by show _ = _; rw [HXT.out]⟩
      case round =>
        obtain ⟨x, rfl, hxm, hm, rfl, HI⟩ := hrel
        have hxl : x.data.toList.length = x.size := by simp
        by_cases hK : (decide (x.data.toList = []) || beg ts x.data.toList) = true
        · have HE : Hid (stt ts T = x.data.toList) := by
            show _ = _
            rw [HI.out]
            exact stt_self (by rw [Bool.or_eq_true, decide_eq_true_eq] at hK; exact hK)
          go_wp2_with (at_lookup; refine look_set _ rfl _ _ rfl b N _ rfl HS2.out x rfl (by unfold maxLen; omega) true hK ?_)
          go_ret2
          refine ⟨?_, HB.out⟩
          have hz : Z = x := by rw [HZ.out, HRT.out, if_pos rfl, HE.out]
          rw [hz, HRT.out]; rfl
        · have hK2 : (decide (x.data.toList = []) || beg ts x.data.toList) = false := by simpa using hK
          obtain ⟨c1, r1, hx⟩ : ∃ c1 r1, x.data.toList = c1 :: r1 := by
            cases hx : x.data.toList with
            | nil => rw [hx] at hK; simp at hK
            | cons c1 r1 => exact ⟨c1, r1, rfl⟩
          have HX1 := Lib.hid (ext1 x c1 r1 hx)
          have hx1 : 1 ≤ x.size := by rw [hx] at hxl; simp at hxl; omega
          have HI2 : Hid (stt ts T = stt ts (x.extract 1 x.size).data.toList) := by
            show _ = _
            rw [HI.out, HX1.out, hx]
            refine stt_next ?_
            rw [hx, Bool.or_eq_false_iff] at hK2
            exact hK2.2
          have hxI : (1 : Int) ≤ (x.size : Int) := by omega
          clear hx hK hxl
          go_wp2_with (at_lookup; refine look_set _ rfl _ _ rfl b N _ rfl HS2.out x rfl (by unfold maxLen; omega) false hK2 ?_)
          go_roundg (gk - 1)
          case measure => omega
          case rel => exact ⟨x.extract 1 x.size, by first | rfl | rw [hxm], by simp; omega, by omega, by first | trivial | rfl, HI2⟩
end Go.Proofs.YtaomcimmhlpflaaDoor
