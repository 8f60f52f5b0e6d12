/-
  The law of SchemeText.
-/
import Derived.Test.YtkeedoieadlbdabDoorPlIsS
import Derived.Test.YtkeedoieadlbdabDoorPlEq
namespace Go.Proofs.YtkeedoieadlbdabDoor
open Go.RowKit

/-- The text of a scheme. -/
def wtx (ts : List (List UInt8)) : List UInt8 := ts.flatMap (fun t => 126 :: t)
def stx (P B : List UInt8) (ts : List (List UInt8)) : List UInt8 := (if B = [] then P else P ++ 33 :: B) ++ wtx ts
theorem wtx_succ (ts : List (List UInt8)) (k : Nat) (h : k < ts.length) : wtx (ts.take (k + 1)) = wtx (ts.take k) ++ 126 :: ts.getD k [] := by
  unfold wtx
  rw [List.take_succ_eq_append_getElem h, List.flatMap_append]
  simp [List.getD, List.getElem?_eq_getElem h]
theorem bmk (s : ByteArray) : s = ⟨s.data.toList.toArray⟩ := by rfl
theorem app2 (l : List UInt8) (c : UInt8) (s : ByteArray) : (⟨l.toArray⟩ : ByteArray) ++ ((⟨#[c]⟩ : ByteArray) ++ s) = ⟨(l ++ c :: s.data.toList).toArray⟩ := by
  apply ByteArray.ext
  simp [ByteArray.data_append]
theorem size_nil {s : ByteArray} (h : s.size = 0) : s = ⟨#[]⟩ := by
  apply ByteArray.ext
  exact Array.eq_empty_of_size_eq_zero h
theorem toList_ne {s : ByteArray} (h : ¬ s.size = 0) : s.data.toList ≠ [] := by
  intro e
  apply h
  have := congrArg List.length e
  simpa using this
theorem isEmpty_ne {s : ByteArray} (h : ¬ s.size = 0) : s.toList.isEmpty = false := by
  rw [ByteArray.toList_eq]
  cases e : s.data.toList with
  | nil => exact absurd e (toList_ne h)
  | cons _ _ => rfl
set_option maxHeartbeats 2000000 in
theorem plText_any (P B : ByteArray) (ts : List (List UInt8)) (v : Value) (w : World) (hf : Fit P B ts) (hn3 : ts.length ≤ 3) (h : Rd ts v w) :
    Calls Tryd.prog 19 #[.agg #[.string P, .string B, v]] w fun e w' => e = .returned (.string ⟨(stx P.data.toList B.data.toList ts).toArray⟩) ∧ Below w.heap.size w w' := by
  obtain ⟨hfp, hfb, hfn, hft⟩ := hf
  have HV := Lib.hid h
  obtain ⟨a, cap, rfl, _⟩ := h
  have HT := Lib.hid hft
  obtain ⟨n, hnn⟩ : ∃ n, n = ts.length := ⟨_, rfl⟩
  have HN := Lib.hid hnn
  rw [← hnn] at hfn hn3
  rw [← hnn]
  clear hft hnn
  by_cases hb0 : B.size = 0
  · obtain rfl := size_nil hb0
    obtain ⟨acc0, ha0⟩ : ∃ acc0, acc0 = P.data.toList := ⟨_, rfl⟩
    have HACC : Hid (stx P.data.toList (⟨#[]⟩ : ByteArray).data.toList ts = acc0 ++ wtx ts) := by show _ = _; unfold stx; rw [ha0]; rfl
    have hal0 : acc0.length ≤ 3000000 := by rw [ha0]; simp; omega
    have HPS : Hid (P = ⟨acc0.toArray⟩) := by show _ = _; rw [ha0]
    clear ha0
    go_enter Tryd.func19, Tryd.ntmps19
    go_wp2
    obtain ⟨b0, hb00⟩ : ∃ b0, b0 = w.heap.size := ⟨_, rfl⟩
    obtain ⟨W, hW⟩ : ∃ W, W = w.alloc (.cells #[.string P, .string ⟨#[]⟩, .slice a n cap] 24) := ⟨_, rfl⟩
    have hblk : Below w.heap.size w W := by rw [hW]; exact (Below.refl _ _).alloc (Nat.le_refl _) _
    have HV2 : Hid (Rd ts (.slice a ts.length cap) W) := HV.out.below hblk
    have HBLK : Hid (Below w.heap.size w W) := hblk
    have hc2 : W.cell? ⟨b0, 2, none⟩ = some (.slice a n cap) := by rw [hW, hb00]; simp
    rw [← hW, ← hb00]
    clear hblk hW hb00
    go_loop [3, 19] (fun o i => ∃ (k : Nat) (acc : List UInt8), k ≤ n ∧ i = .int .i64 k ∧ o = .string ⟨acc.toArray⟩ ∧ acc.length ≤ 3000000 + k * 2000000 ∧ Hid (acc = acc0 ++ wtx (ts.take k))) (fun _ i => n - (intOf i).toNat)
    case atStart => exact ⟨0, acc0, Nat.zero_le _, rfl, congrArg Value.string HPS.out, by omega, by show _ = _; simp [wtx]⟩
    case round =>
      obtain ⟨k, acc, hk, rfl, rfl, hal, HA⟩ := hrel
      by_cases hlt : k < n
      · have hlt2 : k < ts.length := by rw [← HN.out]; exact hlt
        obtain ⟨a', cap', hv', hcs⟩ := HV2.out
        have ha' : a = a' := by simp only [Value.slice.injEq] at hv'; exact hv'.1
        obtain ⟨g, o, hgo, hg, hcell⟩ := hcs k hlt2
        rw [← ha'] at hgo
        clear hv' ha'
        subst hgo
        obtain ⟨bb, hbb⟩ : ∃ bb : ByteArray, bb = ⟨(ts.getD k []).toArray⟩ := ⟨_, rfl⟩
        have hbs : bb.size ≤ 1048576 := by have := HT.out k hlt2; rw [hbb]; simpa [ByteArray.size] using this
        have hbl : bb.data.toList.length = bb.size := by simp
        have HBL := Lib.hid hbl
        have hbd : Hid (bb.data.toList = ts.getD k []) := by show _ = _; rw [hbb]
        unfold strV at hcell
        rw [← hbb] at hcell
        have HW := Lib.hid (wtx_succ ts k hlt2)
        have hno1 : ¬ 9223372036854775807 < 1 + bb.size := by omega
        have hno2 : ¬ 9223372036854775807 < acc.length + (1 + bb.size) := by omega
        have hltI : (k : Int) < (n : Int) := by omega
        clear hcs hbb hbl
        go_wp2
        go_round
        case rel => exact ⟨k + 1, acc ++ 126 :: bb.data.toList, by omega, by go_num, by rw [app2], by rw [List.length_append, List.length_cons, HBL.out]; omega, by show _ = _; rw [HW.out, HA.out, hbd.out, List.append_assoc]⟩
        case measure => simp [intOf]; omega
      · have hltI : ¬ (k : Int) < (n : Int) := by omega
        have HK : Hid (acc = acc0 ++ wtx ts) := by show _ = _; rw [HA.out, show k = ts.length by have := HN.out; omega, List.take_length]
        go_wp2
        go_ret
        exact ⟨by rw [HACC.out, ← HK.out]; rfl, HBLK.out⟩
  · have hbe := isEmpty_ne hb0
    have HNE := Lib.hid (toList_ne hb0)
    obtain ⟨acc0, ha0⟩ : ∃ acc0, acc0 = P.data.toList ++ 33 :: B.data.toList := ⟨_, rfl⟩
    have HACC : Hid (stx P.data.toList B.data.toList ts = acc0 ++ wtx ts) := by show _ = _; unfold stx; rw [ha0, if_neg HNE.out]
    have hal0 : acc0.length ≤ 3000000 := by rw [ha0]; simp; omega
    have HPS : Hid (P ++ ((⟨#[33]⟩ : ByteArray) ++ B) = ⟨acc0.toArray⟩) := by show _ = _; rw [ha0, ← app2]
    have hno1 : ¬ 9223372036854775807 < 1 + B.size := by omega
    have hno2 : ¬ 9223372036854775807 < P.size + (1 + B.size) := by omega
    clear ha0
    go_enter Tryd.func19, Tryd.ntmps19
    go_wp2
    obtain ⟨b0, hb00⟩ : ∃ b0, b0 = w.heap.size := ⟨_, rfl⟩
    obtain ⟨W, hW⟩ : ∃ W, W = w.alloc (.cells #[.string P, .string B, .slice a n cap] 24) := ⟨_, rfl⟩
    have hblk : Below w.heap.size w W := by rw [hW]; exact (Below.refl _ _).alloc (Nat.le_refl _) _
    have HV2 : Hid (Rd ts (.slice a ts.length cap) W) := HV.out.below hblk
    have HBLK : Hid (Below w.heap.size w W) := hblk
    have hc2 : W.cell? ⟨b0, 2, none⟩ = some (.slice a n cap) := by rw [hW, hb00]; simp
    rw [← hW, ← hb00]
    clear hblk hW hb00
    go_loop [3, 19] (fun o i => ∃ (k : Nat) (acc : List UInt8), k ≤ n ∧ i = .int .i64 k ∧ o = .string ⟨acc.toArray⟩ ∧ acc.length ≤ 3000000 + k * 2000000 ∧ Hid (acc = acc0 ++ wtx (ts.take k))) (fun _ i => n - (intOf i).toNat)
    case atStart => exact ⟨0, acc0, Nat.zero_le _, rfl, congrArg Value.string HPS.out, by omega, by show _ = _; simp [wtx]⟩
    case round =>
      obtain ⟨k, acc, hk, rfl, rfl, hal, HA⟩ := hrel
      by_cases hlt : k < n
      · have hlt2 : k < ts.length := by rw [← HN.out]; exact hlt
        obtain ⟨a', cap', hv', hcs⟩ := HV2.out
        have ha' : a = a' := by simp only [Value.slice.injEq] at hv'; exact hv'.1
        obtain ⟨g, o, hgo, hg, hcell⟩ := hcs k hlt2
        rw [← ha'] at hgo
        clear hv' ha'
        subst hgo
        obtain ⟨bb, hbb⟩ : ∃ bb : ByteArray, bb = ⟨(ts.getD k []).toArray⟩ := ⟨_, rfl⟩
        have hbs : bb.size ≤ 1048576 := by have := HT.out k hlt2; rw [hbb]; simpa [ByteArray.size] using this
        have hbl : bb.data.toList.length = bb.size := by simp
        have HBL := Lib.hid hbl
        have hbd : Hid (bb.data.toList = ts.getD k []) := by show _ = _; rw [hbb]
        unfold strV at hcell
        rw [← hbb] at hcell
        have HW := Lib.hid (wtx_succ ts k hlt2)
        have hno1 : ¬ 9223372036854775807 < 1 + bb.size := by omega
        have hno2 : ¬ 9223372036854775807 < acc.length + (1 + bb.size) := by omega
        have hltI : (k : Int) < (n : Int) := by omega
        clear hcs hbb hbl
        go_wp2
        go_round
        case rel => exact ⟨k + 1, acc ++ 126 :: bb.data.toList, by omega, by go_num, by rw [app2], by rw [List.length_append, List.length_cons, HBL.out]; omega, by show _ = _; rw [HW.out, HA.out, hbd.out, List.append_assoc]⟩
        case measure => simp [intOf]; omega
      · have hltI : ¬ (k : Int) < (n : Int) := by omega
        have HK : Hid (acc = acc0 ++ wtx ts) := by show _ = _; rw [HA.out, show k = ts.length by have := HN.out; omega, List.take_length]
        go_wp2
        go_ret
        exact ⟨by rw [HACC.out, ← HK.out]; rfl, HBLK.out⟩
theorem iIsS_b (P B : ByteArray) (ts : List (List UInt8)) (v : Value) (b : Bool) (w : World) (hf : Fit P B ts) (h : Rd ts v w) (hb : schB P.data.toList B.data.toList ts = b) :
    Calls Tryd.prog 22 #[.agg #[.string P, .string B, v]] w fun e w' => e = .returned (.bool b) ∧ Below w.heap.size w w' := by subst hb; exact iIsScheme_any P B ts v w hf h
theorem good_b (P B : ByteArray) (ts : List (List UInt8)) (v : Value) (b : Bool) (w : World) (hf : Fit P B ts) (h : Rd ts v w) (hb : schB P.data.toList B.data.toList ts = b) :
    Calls Tryd.prog 18 #[.agg #[.string P, .string B, v]] w fun e w' => e = .returned (.bool b) ∧ Below w.heap.size w w' := by subst hb; exact plGood_any P B ts v w hf h
theorem sch_three {P B : List UInt8} {ts : List (List UInt8)} (h : schB P B ts = true) : ts.length ≤ 3 := by
  unfold schB at h; simp only [Bool.and_eq_true, decide_eq_true_eq] at h; exact h.2.1
/-- The text, and whether there is one. -/
def stO (P B : ByteArray) (ts : List (List UInt8)) : ByteArray := if schB P.data.toList B.data.toList ts then ⟨(stx P.data.toList B.data.toList ts).toArray⟩ else ⟨#[]⟩
set_option maxHeartbeats 4000000 in
theorem iText_yes (P B : ByteArray) (ts : List (List UInt8)) (v : Value) (w : World) (hf : Fit P B ts) (h : Rd ts v w) (hz : schB P.data.toList B.data.toList ts = true) :
    Calls Tryd.prog 12 #[.agg #[.string P, .string B, v]] w fun e w' => e = .returned (.tuple #[.string (stO P B ts), .bool true]) ∧ Below w.heap.size w w' := by
  have HF := Lib.hid hf
  have hn3 := sch_three hz
  have HZ := Lib.hid hz
  clear hz
  obtain ⟨hfp, hfb, hfn, hft⟩ := hf
  have HV := Lib.hid h
  obtain ⟨a, cap, rfl, _⟩ := h
  have HT := Lib.hid hft
  obtain ⟨n, hnn⟩ : ∃ n, n = ts.length := ⟨_, rfl⟩
  have HN := Lib.hid hnn
  rw [← hnn] at hfn hn3
  rw [← hnn]
  clear hft hnn
  by_cases hb0 : B.size = 0
  · obtain rfl := size_nil hb0
    obtain ⟨acc0, ha0⟩ : ∃ acc0, acc0 = P.data.toList := ⟨_, rfl⟩
    have HACC : Hid (stx P.data.toList (⟨#[]⟩ : ByteArray).data.toList ts = acc0 ++ wtx ts) := by show _ = _; unfold stx; rw [ha0]; rfl
    have hal0 : acc0.length ≤ 3000000 := by rw [ha0]; simp; omega
    have HPS : Hid (P = ⟨acc0.toArray⟩) := by show _ = _; rw [ha0]
    clear ha0
    go_enter Tryd.func12, Tryd.ntmps12
    have HVn : Hid (Rd ts (.slice a n cap) w) := by show Rd _ _ _; have h := HV.out; rw [← HN.out] at h; exact h
    go_wp2_with (go_at_call 22; (with_reducible refine (iIsS_b P ⟨#[]⟩ ts _ true _ HF.out (HVn.out.below (by go_grown)) HZ.out).mono ?_); rintro e w1 ⟨rfl, b1⟩; obtain ⟨c0, c1, c2, hz⟩ := box_kept b1; have B1 : Below w.heap.size w w1 := chain (w := w) (by go_grown) b1)
    have HV2 : Hid (Rd ts (.slice a ts.length cap) w1) := HV.out.below B1
    obtain ⟨b0, hb00⟩ : ∃ b0, b0 = w.heap.size := ⟨_, rfl⟩
    rw [← hb00] at c2
    rw [← hb00]
    have HBLK := Lib.hid B1
    clear c0 c1 b1 hb00
    go_loop [4, 23] (fun o i => ∃ (k : Nat) (acc : List UInt8), k ≤ n ∧ i = .int .i64 k ∧ o = .string ⟨acc.toArray⟩ ∧ acc.length ≤ 3000000 + k * 2000000 ∧ Hid (acc = acc0 ++ wtx (ts.take k))) (fun _ i => n - (intOf i).toNat)
    case atStart => exact ⟨0, acc0, Nat.zero_le _, rfl, congrArg Value.string HPS.out, by omega, by show _ = _; simp [wtx]⟩
    case round =>
      obtain ⟨k, acc, hk, rfl, rfl, hal, HA⟩ := hrel
      by_cases hlt : k < n
      · have hlt2 : k < ts.length := by rw [← HN.out]; exact hlt
        obtain ⟨a', cap', hv', hcs⟩ := HV2.out
        have ha' : a = a' := by simp only [Value.slice.injEq] at hv'; exact hv'.1
        obtain ⟨g, o, hgo, hg, hcell⟩ := hcs k hlt2
        rw [← ha'] at hgo
        clear hv' ha'
        subst hgo
        obtain ⟨bb, hbb⟩ : ∃ bb : ByteArray, bb = ⟨(ts.getD k []).toArray⟩ := ⟨_, rfl⟩
        have hbs : bb.size ≤ 1048576 := by have := HT.out k hlt2; rw [hbb]; simpa [ByteArray.size] using this
        have hbl : bb.data.toList.length = bb.size := by simp
        have HBL := Lib.hid hbl
        have hbd : Hid (bb.data.toList = ts.getD k []) := by show _ = _; rw [hbb]
        unfold strV at hcell
        rw [← hbb] at hcell
        have HW := Lib.hid (wtx_succ ts k hlt2)
        have hno1 : ¬ 9223372036854775807 < 1 + bb.size := by omega
        have hno2 : ¬ 9223372036854775807 < acc.length + (1 + bb.size) := by omega
        have hltI : (k : Int) < (n : Int) := by omega
        clear hcs hbb hbl
        go_wp2
        go_round
        case rel => exact ⟨k + 1, acc ++ 126 :: bb.data.toList, by omega, by go_num, by rw [app2], by rw [List.length_append, List.length_cons, HBL.out]; omega, by show _ = _; rw [HW.out, HA.out, hbd.out, List.append_assoc]⟩
        case measure => simp [intOf]; omega
      · have hltI : ¬ (k : Int) < (n : Int) := by omega
        have HK : Hid (acc = acc0 ++ wtx ts) := by show _ = _; rw [HA.out, show k = ts.length by have := HN.out; omega, List.take_length]
        go_wp2
        go_ret2
        exact ⟨ret_sb2 (by unfold stO; rw [HZ.out, HACC.out, ← HK.out]; rfl) rfl, HBLK.out⟩
  · have hbe := isEmpty_ne hb0
    have HNE := Lib.hid (toList_ne hb0)
    obtain ⟨acc0, ha0⟩ : ∃ acc0, acc0 = P.data.toList ++ 33 :: B.data.toList := ⟨_, rfl⟩
    have HACC : Hid (stx P.data.toList B.data.toList ts = acc0 ++ wtx ts) := by show _ = _; unfold stx; rw [ha0, if_neg HNE.out]
    have hal0 : acc0.length ≤ 3000000 := by rw [ha0]; simp; omega
    have HPS : Hid (P ++ ((⟨#[33]⟩ : ByteArray) ++ B) = ⟨acc0.toArray⟩) := by show _ = _; rw [ha0, ← app2]
    have hno1 : ¬ 9223372036854775807 < 1 + B.size := by omega
    have hno2 : ¬ 9223372036854775807 < P.size + (1 + B.size) := by omega
    clear ha0
    go_enter Tryd.func12, Tryd.ntmps12
    have HVn : Hid (Rd ts (.slice a n cap) w) := by show Rd _ _ _; have h := HV.out; rw [← HN.out] at h; exact h
    go_wp2_with (go_at_call 22; (with_reducible refine (iIsS_b P B ts _ true _ HF.out (HVn.out.below (by go_grown)) HZ.out).mono ?_); rintro e w1 ⟨rfl, b1⟩; obtain ⟨c0, c1, c2, hz⟩ := box_kept b1; have B1 : Below w.heap.size w w1 := chain (w := w) (by go_grown) b1)
    have HV2 : Hid (Rd ts (.slice a ts.length cap) w1) := HV.out.below B1
    obtain ⟨b0, hb00⟩ : ∃ b0, b0 = w.heap.size := ⟨_, rfl⟩
    rw [← hb00] at c2
    rw [← hb00]
    have HBLK := Lib.hid B1
    clear c0 c1 b1 hb00
    go_loop [4, 23] (fun o i => ∃ (k : Nat) (acc : List UInt8), k ≤ n ∧ i = .int .i64 k ∧ o = .string ⟨acc.toArray⟩ ∧ acc.length ≤ 3000000 + k * 2000000 ∧ Hid (acc = acc0 ++ wtx (ts.take k))) (fun _ i => n - (intOf i).toNat)
    case atStart => exact ⟨0, acc0, Nat.zero_le _, rfl, congrArg Value.string HPS.out, by omega, by show _ = _; simp [wtx]⟩
    case round =>
      obtain ⟨k, acc, hk, rfl, rfl, hal, HA⟩ := hrel
      by_cases hlt : k < n
      · have hlt2 : k < ts.length := by rw [← HN.out]; exact hlt
        obtain ⟨a', cap', hv', hcs⟩ := HV2.out
        have ha' : a = a' := by simp only [Value.slice.injEq] at hv'; exact hv'.1
        obtain ⟨g, o, hgo, hg, hcell⟩ := hcs k hlt2
        rw [← ha'] at hgo
        clear hv' ha'
        subst hgo
        obtain ⟨bb, hbb⟩ : ∃ bb : ByteArray, bb = ⟨(ts.getD k []).toArray⟩ := ⟨_, rfl⟩
        have hbs : bb.size ≤ 1048576 := by have := HT.out k hlt2; rw [hbb]; simpa [ByteArray.size] using this
        have hbl : bb.data.toList.length = bb.size := by simp
        have HBL := Lib.hid hbl
        have hbd : Hid (bb.data.toList = ts.getD k []) := by show _ = _; rw [hbb]
        unfold strV at hcell
        rw [← hbb] at hcell
        have HW := Lib.hid (wtx_succ ts k hlt2)
        have hno1 : ¬ 9223372036854775807 < 1 + bb.size := by omega
        have hno2 : ¬ 9223372036854775807 < acc.length + (1 + bb.size) := by omega
        have hltI : (k : Int) < (n : Int) := by omega
        clear hcs hbb hbl
        go_wp2
        go_round
        case rel => exact ⟨k + 1, acc ++ 126 :: bb.data.toList, by omega, by go_num, by rw [app2], by rw [List.length_append, List.length_cons, HBL.out]; omega, by show _ = _; rw [HW.out, HA.out, hbd.out, List.append_assoc]⟩
        case measure => simp [intOf]; omega
      · have hltI : ¬ (k : Int) < (n : Int) := by omega
        have HK : Hid (acc = acc0 ++ wtx ts) := by show _ = _; rw [HA.out, show k = ts.length by have := HN.out; omega, List.take_length]
        go_wp2
        go_ret2
        exact ⟨ret_sb2 (by unfold stO; rw [HZ.out, HACC.out, ← HK.out]; rfl) rfl, HBLK.out⟩
set_option maxHeartbeats 2000000 in
theorem iSchemeText_any (P B : ByteArray) (ts : List (List UInt8)) (v : Value) (w : World) (hf : Fit P B ts) (h : Rd ts v w) :
    Calls Tryd.prog 12 #[.agg #[.string P, .string B, v]] w fun e w' => e = .returned (.tuple #[.string (stO P B ts), .bool (schB P.data.toList B.data.toList ts)]) ∧ Below w.heap.size w w' := by
  cases hz : schB P.data.toList B.data.toList ts with
  | false =>
    have HV := Lib.hid h
    have HZ := Lib.hid hz
    clear hz h
    go_enter Tryd.func12, Tryd.ntmps12
    go_wp2_with (go_at_call 22; (with_reducible refine (iIsS_b P B ts _ false _ hf (HV.out.below (by go_grown)) HZ.out).mono ?_); rintro e w1 ⟨rfl, b1⟩)
    go_ret2
    exact ⟨ret_sb2 (by unfold stO; rw [HZ.out]; rfl) rfl, chain (w := w) (by go_grown) b1⟩
  | true => exact iText_yes P B ts v w hf h hz
end Go.Proofs.YtkeedoieadlbdabDoor
