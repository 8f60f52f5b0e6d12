/-
  The law of TurnSigns.
-/
import Derived.Test.YtpmkdpkegmbleaaRpE
import Derived.Test.YtpmkdpkegmbleaaSgIs
namespace Go.Proofs.Ytpmkdpkegmbleaa
open Go.RowKit

theorem iIs_b (s : ByteArray) (b : Bool) (w : World) (hs : s.size ≤ maxLen) (h : sigB s.data.toList = b) :
    Calls Try.prog 10 #[.string s] w fun e w' => e = .returned (.bool b) ∧ w = w' := by subst h; exact iIsSigned_any s w hs
theorem gd_any (s : ByteArray) (w : World) (hs : s.size ≤ maxLen) :
    Calls Try.prog 13 #[.string s] w fun e w' => e = .returned (.bool (sigB s.data.toList)) ∧ Below w.heap.size w w' := by
  go_enter Try.func13, Try.ntmps13
  go_wp2_with (go_at_call 9; go_must ((with_reducible refine (plain_any _ _ hs).mono ?_); rintro e w' ⟨t, rfl, _, b1⟩))
  go_ret
  exact ⟨rfl, b1⟩
theorem gd_b (s : ByteArray) (b : Bool) (w : World) (hs : s.size ≤ maxLen) (h : sigB s.data.toList = b) :
    Calls Try.prog 13 #[.string s] w fun e w' => e = .returned (.bool b) ∧ Below w.heap.size w w' := by subst h; exact gd_any s w hs
/-- What both answer. -/
def tsT (s : ByteArray) : ByteArray := if sigB s.data.toList = true then ⟨(s.data.toList.map tnB).toArray⟩ else ⟨#[]⟩
theorem sz14 {s : ByteArray} (h : sigB s.data.toList = true) : s.size ≤ 14 := by
  have := sigB_len h
  simp at this
  omega
set_option maxHeartbeats 400000 in
theorem iTurn_any (s : ByteArray) (w : World) (hs : s.size ≤ maxLen) :
    Calls Try.prog 8 #[.string s] w fun e w' => e = .returned (.tuple #[.string (tsT s), .bool (sigB s.data.toList)]) ∧ Below w.heap.size w w' := by
  cases hg : sigB s.data.toList with
  | false =>
    have HG := Lib.hid hg
    have HT : Hid (tsT s = ⟨#[]⟩) := by show _ = _; unfold tsT; rw [hg]; rfl
    clear hg
    go_enter Try.func8, Try.ntmps8
    go_wp2_with (go_at_call 10; go_must ((with_reducible refine (iIs_b _ false _ hs HG.out).mono ?_); rintro e w' ⟨rfl, rfl⟩))
    go_ret2
    exact ⟨ret_sb2 (by rw [HT.out]) rfl, Below.refl _ _⟩
  | true =>
    have HG := Lib.hid hg
    have HT : Hid (tsT s = ⟨(s.data.toList.map tnB).toArray⟩) := by show _ = _; unfold tsT; rw [hg]; rfl
    have hs14 : s.size ≤ 1000000 := by have := sz14 hg; omega
    clear hg
    go_enter Try.func8, Try.ntmps8
    go_wp2_with (first | (go_at_call 10; go_must ((with_reducible refine (iIs_b _ true _ hs HG.out).mono ?_); rintro e w' ⟨rfl, rfl⟩)) | (go_at_call 11; go_must ((refine (newRep4 w.heap.size [43] [45] [45] [43] _ (by simp [strV]) (by simp [strV]) (by simp [strV]) (by simp [strV])).mono ?_); rintro e w1 ⟨g, cap, w2, rfl, hb2, hg1, hg2, ⟨h0, h1, h2, h3⟩, rfl⟩; have B2 := chain (w := w) (by go_grown) hb2; have C0 := Lib.hid h0; have C1 := Lib.hid h1; have C2 := Lib.hid h2; have C3 := Lib.hid h3; clear h0 h1 h2 h3 hb2)) | (go_at_call 12; go_must ((refine (turnRep g cap s w w2 hs14 B2 hg2 C0.out C1.out C2.out C3.out).mono ?_); rintro e w3 ⟨rfl, hb3⟩)))
    go_ret2
    exact ⟨ret_sb2 (by rw [HT.out]) rfl, hb3⟩
theorem str_snoc1 (l : List UInt8) (c : UInt8) : (⟨l.toArray⟩ : ByteArray) ++ ⟨#[c]⟩ = ⟨(l ++ [c]).toArray⟩ := by
  apply ByteArray.ext
  simp [ByteArray.data_append]
theorem tn_take (s : ByteArray) (k : Nat) (h : k < s.size) : (s.data.toList.take (k + 1)).map tnB = (s.data.toList.take k).map tnB ++ [tnB s[k]] := by
  rw [take_snoc s k h, List.map_append]; rfl
set_option maxHeartbeats 400000 in
theorem sTurn_any (s : ByteArray) (w : World) (hs : s.size ≤ maxLen) :
    Calls Try.prog 7 #[.string s] w fun e w' => e = .returned (.tuple #[.string (tsT s), .bool (sigB s.data.toList)]) ∧ Below w.heap.size w w' := by
  cases hg : sigB s.data.toList with
  | false =>
    have HG := Lib.hid hg
    have HT : Hid (tsT s = ⟨#[]⟩) := by show _ = _; unfold tsT; rw [hg]; rfl
    clear hg
    go_enter Try.func7, Try.ntmps7
    go_wp2_with (go_at_call 13; go_must ((with_reducible refine (gd_b _ false _ hs HG.out).mono ?_); rintro e w' ⟨rfl, b1⟩))
    go_ret2
    exact ⟨ret_sb2 (by rw [HT.out]) rfl, b1⟩
  | true =>
    have HG := Lib.hid hg
    have HT : Hid (tsT s = ⟨(s.data.toList.map tnB).toArray⟩) := by show _ = _; unfold tsT; rw [hg]; rfl
    have hs14 : s.size ≤ 14 := sz14 hg
    clear hg
    go_enter Try.func7, Try.ntmps7
    go_wp2_with (go_at_call 13; go_must ((with_reducible refine (gd_b _ true _ hs HG.out).mono ?_); rintro e w' ⟨rfl, b1⟩))
    go_loopw [4, 5] (fun t i wr => ∃ (k : Nat), k ≤ s.size ∧ i = .int .i64 k ∧ t = .string ⟨((s.data.toList.take k).map tnB).toArray⟩ ∧ Below w.heap.size w wr) (fun _ i _ => s.size - (intOf i).toNat)
    case atStart => exact ⟨0, Nat.zero_le _, rfl, by simp, b1⟩
    case round =>
      obtain ⟨k, hk, rfl, rfl, hbl⟩ := hrel
      have hl : ((s.data.toList.take k).map tnB).length ≤ 14 := by simp; omega
      by_cases hlt : k < s.size
      · have HTK := Lib.hid (tn_take s k hlt)
        obtain ⟨L, hL⟩ : ∃ L, L = (s.data.toList.take k).map tnB := ⟨_, rfl⟩
        rw [← hL] at hl ⊢
        have HL := Lib.hid hL
        clear hL
        by_cases h43 : (s[k].toNat : Int) = 43
        · have HC : Hid (tnB s[k] = 45) := by show _ = _; rw [show s[k] = 43 from UInt8.toNat_inj.1 (by show _ = 43; omega)]; rfl
          go_wp2
          go_roundw
          case rel => exact ⟨k + 1, by omega, by go_num, by rw [HTK.out, HC.out, ← HL.out, str_snoc1], hbl⟩
          case measure => simp [intOf]; omega
        · by_cases h45 : (s[k].toNat : Int) = 45
          · have HC : Hid (tnB s[k] = 43) := by show _ = _; rw [show s[k] = 45 from UInt8.toNat_inj.1 (by show _ = 45; omega)]; rfl
            go_wp2
            go_roundw
            case rel => exact ⟨k + 1, by omega, by go_num, by rw [HTK.out, HC.out, ← HL.out, str_snoc1], hbl⟩
            case measure => simp [intOf]; omega
          · have HC : Hid (tnB s[k] = s[k]) := by
              show _ = _
              unfold tnB
              rw [if_neg (fun e => h43 (by rw [e]; rfl)), if_neg (fun e => h45 (by rw [e]; rfl))]
            have HN4 := Lib.hid h43
            have HN5 := Lib.hid h45
            go_wp2
            go_roundw
            case rel => exact ⟨k + 1, by omega, by go_num, by rw [HTK.out, HC.out, ← HL.out, str_snoc _ s k hlt], hbl⟩
            case measure => simp [intOf]; omega
      · have HK : Hid (s.data.toList.take k = s.data.toList) := by show _ = _; rw [show k = s.size by omega, take_all]
        go_wp2
        go_ret2
        exact ⟨ret_sb2 (by rw [HT.out, HK.out]) rfl, hbl⟩
theorem FnExactTurnSigns_law (s : ByteArray) (hs : s.size ≤ maxLen) (w : World) :
    Calls Try.prog 4 #[.string s] w fun e w' => e = .returned (.bool true) ∧ Below w.heap.size w w' := by
  have hm := hs
  unfold maxLen at hs
  by_cases hb : s.size ≤ 1048576
  · go_enter Try.func4, Try.ntmps4
    go_wp2_with (first | (go_at_call 7; go_must ((with_reducible refine (sTurn_any _ _ hm).mono ?_); rintro e w1 ⟨rfl, b1⟩)) | (go_at_call 8; go_must ((with_reducible refine (iTurn_any _ _ hm).mono ?_); rintro e w2 ⟨rfl, b2⟩)))
    go_ret
    exact ⟨rfl, chain b1 b2⟩
  · go_enter Try.func4, Try.ntmps4
    go_wp2_with fail
    go_ret
    exact ⟨rfl, Below.refl _ _⟩
end Go.Proofs.Ytpmkdpkegmbleaa
