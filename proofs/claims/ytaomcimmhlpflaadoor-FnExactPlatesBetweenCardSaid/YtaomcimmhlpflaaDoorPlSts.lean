/-
  The model's states: all beginnings of words; and the end that is kept.
-/
import Derived.Test.YtaomcimmhlpflaaDoorPlIdx
namespace Go.Proofs.YtaomcimmhlpflaaDoor
open Go.RowKit

/-- What has been collected: all beginnings of the first k words, and of the next one those shorter than m. -/
structure StsP (ts : List (List UInt8)) (k m : Nat) (us : List (List UInt8)) : Prop where
  nil : [] ∈ us
  ok : ∀ u ∈ us, u = [] ∨ beg ts u = true
  all : ∀ j i, (j < k ∨ (j = k ∧ i < m)) → j < ts.length → 1 ≤ i → i < (ts.getD j []).length → (ts.getD j []).take i ∈ us
  len : us.length + 1 ≤ 1 + 4 * k + m
theorem StsP.start (ts : List (List UInt8)) : StsP ts 0 1 [[]] := ⟨by simp, fun u hu => by simp at hu; exact .inl hu, fun j i h _ h1 _ => by omega, by simp⟩
theorem getD_len {ts : List (List UInt8)} {k : Nat} (hk : k < ts.length) : ts.getD k [] ∈ ts := by
  rw [List.getD_eq_getElem?_getD, List.getElem?_eq_getElem hk]; exact List.getElem_mem _
theorem beg_take {ts : List (List UInt8)} {k m : Nat} (hk : k < ts.length) (hm : m < (ts.getD k []).length) : beg ts ((ts.getD k []).take m) = true := by
  rw [beg_iff]
  exact ⟨_, getD_len hk, List.take_prefix _ _, by rw [List.length_take]; omega⟩
theorem StsP.add {ts : List (List UInt8)} {k m : Nat} {us : List (List UInt8)} (h : StsP ts k m us) (hk : k < ts.length) (hm : m < (ts.getD k []).length) : StsP ts k (m + 1) (us ++ [(ts.getD k []).take m]) := by
  refine ⟨by have := h.nil; simp [this], fun u hu => ?_, fun j i hj hjl h1 h2 => ?_, by have := h.len; simp; omega⟩
  · rcases List.mem_append.1 hu with hu | hu
    · exact h.ok u hu
    · simp at hu; subst hu; exact .inr (beg_take hk hm)
  · by_cases e : j = k ∧ i = m
    · obtain ⟨rfl, rfl⟩ := e; simp
    · exact List.mem_append.2 (.inl (h.all j i (by omega) hjl h1 h2))
theorem StsP.had {ts : List (List UInt8)} {k m : Nat} {us : List (List UInt8)} (h : StsP ts k m us) (hm : (ts.getD k []).take m ∈ us) : StsP ts k (m + 1) us := by
  refine ⟨h.nil, h.ok, fun j i hj hjl h1 h2 => ?_, by have := h.len; omega⟩
  by_cases e : j = k ∧ i = m
  · obtain ⟨rfl, rfl⟩ := e; exact hm
  · exact h.all j i (by omega) hjl h1 h2
theorem StsP.word {ts : List (List UInt8)} {k m : Nat} {us : List (List UInt8)} (h : StsP ts k m us) (hm : (ts.getD k []).length ≤ m) (h4 : m ≤ 4) : StsP ts (k + 1) 1 us := by
  refine ⟨h.nil, h.ok, fun j i hj hjl h1 h2 => ?_, by have := h.len; omega⟩
  by_cases e : j = k
  · subst e; exact h.all j i (by omega) hjl h1 h2
  · exact h.all j i (by omega) hjl h1 h2
theorem StsP.beg {ts : List (List UInt8)} {us : List (List UInt8)} {m : Nat} (h : StsP ts ts.length m us) {u : List UInt8} (hu : u = [] ∨ beg ts u = true) : u ∈ us := by
  rcases hu with rfl | hu
  · exact h.nil
  · by_cases e : u = []
    · subst e; exact h.nil
    · rw [beg_iff] at hu
      obtain ⟨w, hw, hp, hl⟩ := hu
      obtain ⟨j, hj, rfl⟩ := List.getElem_of_mem hw
      have he : ts.getD j [] = ts[j] := by rw [List.getD_eq_getElem?_getD, List.getElem?_eq_getElem hj]; rfl
      have := h.all j u.length (.inl hj) hj (by cases u with | nil => exact absurd rfl e | cons a l => simp) (by rw [he]; exact hl)
      rw [he, ← List.prefix_iff_eq_take.1 hp] at this
      exact this
theorem ext0 (s : ByteArray) (m : Nat) (_h : m ≤ s.size) : s.extract 0 m = ⟨(s.data.toList.take m).toArray⟩ := by
  apply ByteArray.ext
  apply Array.ext'
  simp [ByteArray.data_extract]
set_option maxRecDepth 100000 in
set_option maxHeartbeats 4000000 in
theorem plStates_any (P B : ByteArray) (ts : List (List UInt8)) (v : Value) (w : World) (hn : ts.length ≤ 3) (ht : ∀ i, i < ts.length → (ts.getD i []).length ≤ 4) (h : Rd ts v w) :
    Calls Tryd.prog 71 #[.agg #[.string P, .string B, v]] w fun e w' => (∃ (us : List (List UInt8)) (u : Value), e = .returned u ∧ Strs w.heap.size us u w' ∧ StsP ts ts.length 1 us) ∧ Below w.heap.size w w' := by
  have HV := Lib.hid h
  obtain ⟨a, cap, rfl, _⟩ := h
  have HT := Lib.hid ht
  obtain ⟨n, hnn⟩ : ∃ n, n = ts.length := ⟨_, rfl⟩
  have HN := Lib.hid hnn
  rw [← hnn] at hn
  rw [← hnn]
  clear ht hnn
  go_enter Tryd.func71, Tryd.ntmps71
  go_wp2
  obtain ⟨W, hW⟩ : ∃ W, W = w.alloc (.cells #[.string P, .string B, .slice a n cap] 26) := ⟨_, rfl⟩
  have hblk : Below w.heap.size w W := by rw [hW]; exact (Below.refl _ _).alloc (Nat.le_refl _) _
  have hWs : W.heap.size = w.heap.size + 1 := by rw [hW]; simp
  have HV2 : Hid (Rd ts (.slice a ts.length cap) W) := HV.out.below hblk
  have HBLK := Lib.hid hblk
  have HWS := Lib.hid hWs
  have HS0 : Hid (Strs W.heap.size [[]] (.slice (some ⟨W.heap.size, 0, none⟩) 1 1) (W.alloc (.cells #[.string ⟨#[]⟩] 9))) := Strs.one [] W
  rw [← hW]
  have hB0 : w.heap.size ≤ W.heap.size := hblk.size
  have hzz : w.heap.size + 1 = W.heap.size := hWs.symm
  first | rw [hzz] | skip
  clear hblk hW hWs
  go_loopw [3, 11] (fun o i wr => ∃ (k : Nat) (us : List (List UInt8)), k ≤ n ∧ i = .int .i64 k ∧ Hid (Strs W.heap.size us o wr) ∧ Hid (StsP ts k 1 us) ∧ Below W.heap.size W wr) (fun _ i _ => n - (intOf i).toNat)
  case atStart => exact ⟨0, [[]], Nat.zero_le _, rfl, HS0, StsP.start ts, (Below.refl _ _).alloc (Nat.le_refl _) _⟩
  case round =>
    obtain ⟨k, us, hk, rfl, HU, HP, hb⟩ := hrel
    have hbs := hb.size
    by_cases hlt : k < n
    · have hlt2 : k < ts.length := by rw [← HN.out]; exact hlt
      obtain ⟨a', cap', hv', hcs⟩ := HV2.out
      have ha' : a = a' := by simp only [Value.slice.injEq] at hv'; exact hv'.1
      obtain ⟨g, o, hgo, hg, hcell⟩ := hcs k hlt2
      rw [← ha'] at hgo
      clear hv' ha'
      subst hgo
      have hcell := (hb.cell (p := ⟨g, o + k, none⟩) hg).trans hcell
      obtain ⟨bb, hbb⟩ : ∃ bb : ByteArray, bb = ⟨(ts.getD k []).toArray⟩ := ⟨_, rfl⟩
      have hbd : bb.data.toList = ts.getD k [] := by rw [hbb]
      have HBD := Lib.hid hbd
      have hbl : bb.size ≤ 4 := by have := HT.out k hlt2; rw [← hbd] at this; simpa using this
      have HBL : Hid ((ts.getD k []).length = bb.size) := by show _ = _; rw [← hbd]; simp
      unfold strV at hcell
      rw [← hbb] at hcell
      have hltI : (k : Int) < (n : Int) := by omega
      clear hcs hbb hbd
      rename World => wo
      go_wp2
      go_loopw [3, 6] (fun o i wr => ∃ (m : Nat) (us : List (List UInt8)), 1 ≤ m ∧ m ≤ 4 ∧ i = .int .i64 m ∧ Hid (Strs W.heap.size us o wr) ∧ Hid (StsP ts k m us) ∧ Below W.heap.size W wr) (fun _ i _ => 5 - (intOf i).toNat)
      case atStart => exact ⟨1, us, Nat.le_refl _, by omega, rfl, HU, HP, hb⟩
      case round =>
        obtain ⟨m, us, hm1, hm4, rfl, HU, HP, hb⟩ := hrel
        have hbs := hb.size
        have hul : us.length ≤ 20 := by have := HP.out.len; omega
        by_cases hlm : m < bb.size
        · have hlmI : (m : Int) < (bb.size : Int) := by omega
          have hm0 : (0 : Int) ≤ (m : Int) := by omega
          have HX := Lib.hid (ext0 bb m (by omega))
          have HTK : Hid ((ts.getD k []).take m = (bb.extract 0 m).data.toList) := by show _ = _; rw [HX.out, HBD.out]
          obtain ⟨xx, hxx⟩ : ∃ xx, xx = bb.extract 0 m := ⟨_, rfl⟩
          by_cases hin : xx.data.toList ∈ us
          · have HD : Hid (decide (xx.data.toList ∈ us) = true) := decide_eq_true hin
            have HNX : Hid (StsP ts k (m + 1) us) := HP.out.had (by rw [HTK.out, ← hxx]; exact hin)
            clear hin
            subst hxx
            have HH := Lib.hid (l1HasS_any (bb.extract 0 m) us _ wr (by omega) HU.out.rd)
            go_wp2_with (go_at_call 104; refine HH.out.mono ?_; rw [HD.out]; rintro e w' ⟨rfl, rfl⟩)
            go_roundw
            case rel => exact ⟨m + 1, us, by omega, by omega, by go_num, HU, HNX, hb⟩
            case measure => simp [intOf]; omega
          · have HD : Hid (decide (xx.data.toList ∈ us) = false) := decide_eq_false hin
            have HNX : Hid (StsP ts k (m + 1) (us ++ [xx.data.toList])) := by
              have := HP.out.add hlt2 (by rw [HBL.out]; exact hlm)
              rw [HTK.out, ← hxx] at this; exact this
            clear hin
            subst hxx
            have HH := Lib.hid (l1HasS_any (bb.extract 0 m) us _ wr (by omega) HU.out.rd)
            go_wp2_with (first | (go_at_call 104; refine HH.out.mono ?_; rw [HD.out]; rintro e w' ⟨rfl, rfl⟩) | (at_builtin; refine append_strs _ rfl _ _ rfl W.heap.size us _ rfl (HU.out.alloc _) wr.heap.size [(bb.extract 0 m).data.toList] rfl (news1 _ _ rfl) (by simp; omega) (by simp; omega) ?_; intro v1 w6 hu6 hb6))
            go_roundw
            case rel => exact ⟨m + 1, us ++ [(bb.extract 0 m).data.toList], by omega, by omega, by go_num, hu6, HNX, (hb.alloc hbs _).trans hb6⟩
            case measure => simp [intOf]; omega
        · have hlmI : ¬ (m : Int) < (bb.size : Int) := by omega
          have HNX : Hid (StsP ts (k + 1) 1 us) := HP.out.word (by rw [HBL.out]; omega) hm4
          go_wp2
          go_roundw
          case rel => exact ⟨k + 1, us, by omega, by go_num, HU, HNX, hb⟩
          case measure => simp [intOf]; omega
    · have hltI : ¬ (k : Int) < (n : Int) := by omega
      have HK : Hid (k = ts.length) := by show _ = _; rw [← HN.out]; omega
      go_wp2
      go_ret
      refine ⟨⟨us, _, rfl, HU.out.mono hB0, ?_⟩, HBLK.out.trans (hb.mono hB0)⟩
      rw [HN.out, ← HK.out]; exact HP.out
end Go.Proofs.YtaomcimmhlpflaaDoor
