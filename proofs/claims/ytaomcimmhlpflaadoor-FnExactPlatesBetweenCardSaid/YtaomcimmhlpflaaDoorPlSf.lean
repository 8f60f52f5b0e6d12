/-
  Plates of a scheme, as the program says.
-/
import Derived.Test.YtaomcimmhlpflaaDoorPlFit
namespace Go.Proofs.YtaomcimmhlpflaaDoor
open Go.RowKit

theorem bc_snoc (l : List UInt8) (c : UInt8) : Lib.byteCells (l ++ [c]) = Lib.byteCells l ++ [.int .u8 c.toNat] := by simp [Lib.byteCells]
def flt (B l : List UInt8) : List UInt8 := l.filter (fun c => !B.contains c)
theorem flt_app (B a b : List UInt8) : flt B (a ++ b) = flt B a ++ flt B b := by simp [flt]
theorem flt_len (B l : List UInt8) : (flt B l).length ≤ l.length := List.length_filter_le _ _
theorem idxB_any (s : ByteArray) (c : UInt8) (W : World) :
    Calls Tryd.prog 75 #[.string s, .int .u8 (c.toNat : Int)] W fun e w' => e = .returned (.int .i64 (Lib.indexByte s.data.toList c)) ∧ W = w' := by
  refine (Tryd.strings_IndexByte s (c.toNat : Int) W).mono ?_
  rintro e w' ⟨rfl, rfl⟩
  refine ⟨?_, rfl⟩
  rw [Int.toNat_natCast]
  have e : c.toNat.toUInt8 = c := by simp
  rw [e]
set_option maxRecDepth 100000 in
set_option maxHeartbeats 4000000 in
theorem signsFor_any (p : UInt8) (B : ByteArray) (w : World) :
    Calls Tryd.prog 76 #[.int .u8 (p.toNat : Int), .string B] w fun e w' => e = .returned (.string ⟨(sgRow p B.data.toList).toArray⟩) ∧ Below w.heap.size w w' := by
  by_cases hp : (p.toNat : Int) = 68
  · have hp2 := (p68 p).2 hp
    obtain ⟨S, hS⟩ : ∃ S : ByteArray, S = ⟨#[48, 49, 50, 51, 52, 53, 54, 55, 56, 57]⟩ := ⟨_, rfl⟩
    have HROW : Hid (sgRow p B.data.toList = flt B.data.toList S.data.toList) := by show _ = _; unfold sgRow; rw [if_pos hp2]; rw [hS]; rfl
    have hsz : S.size = 10 := by rw [hS]; rfl
    go_enter Tryd.func76, Tryd.ntmps76
    go_wp2
    rw [← hS]
    clear hp hp2
    obtain ⟨g, hg⟩ : ∃ g, g = w.heap.size := ⟨_, rfl⟩
    have HBF : Hid (Lib.IsBuilder 90 5 g g (Lib.byteCells []) (w.alloc (.cells #[.pointer none, .slice none 0 0] 90))) := by
      show Lib.IsBuilder _ _ _ _ _ _
      rw [hg]; exact Lib.fresh_isBuilder 90 5 w
    have HB1 : Hid (Below w.heap.size w (w.alloc (.cells #[.pointer none, .slice none 0 0] 90))) := (Below.refl _ _).alloc (Nat.le_refl _) _
    have hgz : g ≤ (w.alloc (.cells #[.pointer none, .slice none 0 0] 90)).heap.size := by rw [hg]; simp
    have HWG : Hid (w.heap.size ≤ g) := by show _ ≤ _; rw [hg]; exact Nat.le_refl _
    rw [← hg]
    clear hg hS
    go_loopw [12] (fun i wr => ∃ k : Nat, k ≤ 10 ∧ i = .int .i64 k ∧ Hid (Lib.IsBuilder 90 5 g g (Lib.byteCells (flt B.data.toList (S.data.toList.take k))) wr) ∧ Hid (Below w.heap.size w wr) ∧ g ≤ wr.heap.size) (fun i _ => 10 - (intOf i).toNat)
    case atStart => exact ⟨0, Nat.zero_le _, rfl, HBF, HB1, hgz⟩
    case round =>
      obtain ⟨k, hk, rfl, HB, HBL, hgs⟩ := hrel
      by_cases hlt : k < 10
      · have hlS : k < S.size := by omega
        have HE := Lib.hid (take_snoc S k hlS)
        have hkk : (k : Int) < 10 := by omega
        have hk0 : (0 : Int) ≤ (k : Int) := by omega
        have hlen : (Lib.byteCells (flt B.data.toList (S.data.toList.take k))).length + 1 ≤ 140737488355328 := by
          have h1 := flt_len B.data.toList (S.data.toList.take k)
          simp only [Lib.byteCells, List.length_map, List.length_take] at h1 ⊢
          omega
        have HLEN := Lib.hid hlen
        obtain ⟨r, hr⟩ : ∃ r, r = Lib.indexByte B.data.toList S[k] := ⟨_, rfl⟩
        have hix := fun W => idxB_any B S[k] W
        rw [← hr] at hix
        have hrn := indexByte_neg B.data.toList S[k]
        rw [← hr] at hrn
        clear hr hlen
        cases hc : B.data.toList.contains S[k] with
        | true =>
          rw [hc] at hrn
          have hr0 : ¬ r < 0 := by simpa using hrn
          have HF2 : Hid (flt B.data.toList (S.data.toList.take (k + 1)) = flt B.data.toList (S.data.toList.take k)) := by
            show _ = _
            have e : flt B.data.toList [S[k]] = [] := by unfold flt; rw [List.filter_cons, if_neg (by rw [hc]; simp)]; rfl
            rw [HE.out, flt_app, e, List.append_nil]
          clear hc hrn
          go_wp2_with (go_at_call 75; refine (hix _).mono ?_; rintro e w1 ⟨rfl, rfl⟩)
          go_roundw
          case rel => exact ⟨k + 1, by omega, by go_num, by show Lib.IsBuilder _ _ _ _ _ _; rw [HF2.out]; exact HB.out, HBL, hgs⟩
          case measure => simp [intOf]; omega
        | false =>
          rw [hc] at hrn
          have hr0 : r < 0 := by simpa using hrn
          have HF2 : Hid (flt B.data.toList (S.data.toList.take (k + 1)) = flt B.data.toList (S.data.toList.take k) ++ [S[k]]) := by
            show _ = _
            have e : flt B.data.toList [S[k]] = [S[k]] := by unfold flt; rw [List.filter_cons, if_pos (by rw [hc]; rfl)]; rfl
            rw [HE.out, flt_app, e]
          clear hc hrn
          go_wp2_with (first | (go_at_call 75; refine (hix _).mono ?_; rintro e w1 ⟨rfl, rfl⟩) | (go_at_call 79; go_must (refine (wb_any g _ _ _ _ HB.out HLEN.out hgs).mono ?_); rintro e w3 ⟨rfl, h3, b3, _⟩; have H3 := Lib.hid h3; have hz := b3.size; have HB3 := Lib.hid (HBL.out.trans (b3.mono HWG.out)); clear b3 h3))
          go_roundw
          case rel => exact ⟨k + 1, by omega, by go_num, by show Lib.IsBuilder _ _ _ _ _ _; rw [HF2.out, bc_snoc]; exact .inr H3.out, HB3, by omega⟩
          case measure => simp [intOf]; omega
      · have HK : Hid (flt B.data.toList (S.data.toList.take k) = sgRow p B.data.toList) := by
          show _ = _
          rw [HROW.out, show k = S.size by omega, take_all]
        have hkk : ¬ (k : Int) < 10 := by omega
        go_wp2_with (go_at_call 80; go_must (refine (bstr_any g _ _ _ HB.out hgs).mono ?_); rintro e w3 ⟨rfl, b3⟩)
        go_ret
        exact ⟨by rw [HK.out]; rfl, HBL.out.trans (b3.mono HWG.out)⟩
  · have hp2 : ¬ p = 68 := fun e => hp ((p68 p).1 e)
    have hq : ((p.toNat : Int) == 68) = false := by simpa using hp
    obtain ⟨S, hS⟩ : ∃ S : ByteArray, S = ⟨#[65, 66, 67, 68, 69, 70, 71, 72, 73, 74, 75, 76, 77, 78, 79, 80, 81, 82, 83, 84, 85, 86, 87, 88, 89, 90]⟩ := ⟨_, rfl⟩
    have HROW : Hid (sgRow p B.data.toList = flt B.data.toList S.data.toList) := by show _ = _; unfold sgRow; rw [if_neg hp2]; rw [hS]; rfl
    have hsz : S.size = 26 := by rw [hS]; rfl
    go_enter Tryd.func76, Tryd.ntmps76
    go_wp2
    rw [← hS]
    clear hp hp2 hq
    obtain ⟨g, hg⟩ : ∃ g, g = w.heap.size := ⟨_, rfl⟩
    have HBF : Hid (Lib.IsBuilder 90 5 g g (Lib.byteCells []) (w.alloc (.cells #[.pointer none, .slice none 0 0] 90))) := by
      show Lib.IsBuilder _ _ _ _ _ _
      rw [hg]; exact Lib.fresh_isBuilder 90 5 w
    have HB1 : Hid (Below w.heap.size w (w.alloc (.cells #[.pointer none, .slice none 0 0] 90))) := (Below.refl _ _).alloc (Nat.le_refl _) _
    have hgz : g ≤ (w.alloc (.cells #[.pointer none, .slice none 0 0] 90)).heap.size := by rw [hg]; simp
    have HWG : Hid (w.heap.size ≤ g) := by show _ ≤ _; rw [hg]; exact Nat.le_refl _
    rw [← hg]
    clear hg hS
    go_loopw [12] (fun i wr => ∃ k : Nat, k ≤ 26 ∧ i = .int .i64 k ∧ Hid (Lib.IsBuilder 90 5 g g (Lib.byteCells (flt B.data.toList (S.data.toList.take k))) wr) ∧ Hid (Below w.heap.size w wr) ∧ g ≤ wr.heap.size) (fun i _ => 26 - (intOf i).toNat)
    case atStart => exact ⟨0, Nat.zero_le _, rfl, HBF, HB1, hgz⟩
    case round =>
      obtain ⟨k, hk, rfl, HB, HBL, hgs⟩ := hrel
      by_cases hlt : k < 26
      · have hlS : k < S.size := by omega
        have HE := Lib.hid (take_snoc S k hlS)
        have hkk : (k : Int) < 26 := by omega
        have hk0 : (0 : Int) ≤ (k : Int) := by omega
        have hlen : (Lib.byteCells (flt B.data.toList (S.data.toList.take k))).length + 1 ≤ 140737488355328 := by
          have h1 := flt_len B.data.toList (S.data.toList.take k)
          simp only [Lib.byteCells, List.length_map, List.length_take] at h1 ⊢
          omega
        have HLEN := Lib.hid hlen
        obtain ⟨r, hr⟩ : ∃ r, r = Lib.indexByte B.data.toList S[k] := ⟨_, rfl⟩
        have hix := fun W => idxB_any B S[k] W
        rw [← hr] at hix
        have hrn := indexByte_neg B.data.toList S[k]
        rw [← hr] at hrn
        clear hr hlen
        cases hc : B.data.toList.contains S[k] with
        | true =>
          rw [hc] at hrn
          have hr0 : ¬ r < 0 := by simpa using hrn
          have HF2 : Hid (flt B.data.toList (S.data.toList.take (k + 1)) = flt B.data.toList (S.data.toList.take k)) := by
            show _ = _
            have e : flt B.data.toList [S[k]] = [] := by unfold flt; rw [List.filter_cons, if_neg (by rw [hc]; simp)]; rfl
            rw [HE.out, flt_app, e, List.append_nil]
          clear hc hrn
          go_wp2_with (go_at_call 75; refine (hix _).mono ?_; rintro e w1 ⟨rfl, rfl⟩)
          go_roundw
          case rel => exact ⟨k + 1, by omega, by go_num, by show Lib.IsBuilder _ _ _ _ _ _; rw [HF2.out]; exact HB.out, HBL, hgs⟩
          case measure => simp [intOf]; omega
        | false =>
          rw [hc] at hrn
          have hr0 : r < 0 := by simpa using hrn
          have HF2 : Hid (flt B.data.toList (S.data.toList.take (k + 1)) = flt B.data.toList (S.data.toList.take k) ++ [S[k]]) := by
            show _ = _
            have e : flt B.data.toList [S[k]] = [S[k]] := by unfold flt; rw [List.filter_cons, if_pos (by rw [hc]; rfl)]; rfl
            rw [HE.out, flt_app, e]
          clear hc hrn
          go_wp2_with (first | (go_at_call 75; refine (hix _).mono ?_; rintro e w1 ⟨rfl, rfl⟩) | (go_at_call 79; go_must (refine (wb_any g _ _ _ _ HB.out HLEN.out hgs).mono ?_); rintro e w3 ⟨rfl, h3, b3, _⟩; have H3 := Lib.hid h3; have hz := b3.size; have HB3 := Lib.hid (HBL.out.trans (b3.mono HWG.out)); clear b3 h3))
          go_roundw
          case rel => exact ⟨k + 1, by omega, by go_num, by show Lib.IsBuilder _ _ _ _ _ _; rw [HF2.out, bc_snoc]; exact .inr H3.out, HB3, by omega⟩
          case measure => simp [intOf]; omega
      · have HK : Hid (flt B.data.toList (S.data.toList.take k) = sgRow p B.data.toList) := by
          show _ = _
          rw [HROW.out, show k = S.size by omega, take_all]
        have hkk : ¬ (k : Int) < 26 := by omega
        go_wp2_with (go_at_call 80; go_must (refine (bstr_any g _ _ _ HB.out hgs).mono ?_); rintro e w3 ⟨rfl, b3⟩)
        go_ret
        exact ⟨by rw [HK.out]; rfl, HBL.out.trans (b3.mono HWG.out)⟩
end Go.Proofs.YtaomcimmhlpflaaDoor
