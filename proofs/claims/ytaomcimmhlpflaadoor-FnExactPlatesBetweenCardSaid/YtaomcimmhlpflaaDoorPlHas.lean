/-
  Words in texts, as the model says.
-/
import Derived.Test.YtaomcimmhlpflaaDoorPlGood
namespace Go.Proofs.YtaomcimmhlpflaaDoor
open Go.RowKit

theorem infix_iff_occ (t w : List UInt8) : w <:+: t ↔ ∃ i, i + w.length ≤ t.length ∧ Lib.occAt t w i = true := by
  constructor
  · intro h
    obtain ⟨i, h1, h2⟩ := infix_occ t w h
    rcases Lib.occAt_room h2 with h3 | h3
    · exact ⟨i, h3, h2⟩
    · exact ⟨i, by rw [h3]; simpa using h1, h2⟩
  · rintro ⟨i, _, h⟩
    exact occ_infix t w i h
theorem sub_eq (t w : ByteArray) (k : Nat) (h : k + w.size ≤ t.size) : ((t.extract k (k + w.size)).toList == w.toList) = Lib.occAt t.data.toList w.data.toList k := by
  rw [Lib.toList_data, Lib.toList_data, Lib.extract_data, Lib.occAt_iff_take _ _ _ (by simpa using h)]
  congr 2
  have : w.data.toList.length = w.size := by simp
  omega
set_option maxHeartbeats 1000000 in
theorem plHas_any (t w : ByteArray) (W : World) (ht : t.size ≤ 1048576) (hw : w.size ≤ 1048576) :
    Calls Tryd.prog 35 #[.string t, .string w] W fun e w' => e = .returned (.bool (decide (w.data.toList <:+: t.data.toList))) ∧ W = w' := by
  have htl : t.data.toList.length = t.size := by simp
  have hwl : w.data.toList.length = w.size := by simp
  have HTL := Lib.hid htl
  have HWL := Lib.hid hwl
  clear htl hwl
  go_enter Tryd.func35, Tryd.ntmps35
  go_wp2
  go_loop [5] (fun i => ∃ k : Nat, k ≤ t.size + 1 ∧ i = .int .i64 k ∧ Hid (∀ j, j < k → Lib.occAt t.data.toList w.data.toList j = false)) (fun i => t.size + 1 - (intOf i).toNat)
  case atStart => exact ⟨0, Nat.zero_le _, rfl, fun j hj => by omega⟩
  case round =>
    obtain ⟨k, hk, rfl, HJ⟩ := hrel
    by_cases hlt : k + w.size ≤ t.size
    · have hltI : (k : Int) + (w.size : Int) ≤ (t.size : Int) := by omega
      have he := sub_eq t w k hlt
      cases hb : Lib.occAt t.data.toList w.data.toList k with
      | true =>
        rw [hb] at he
        have HY : Hid (w.data.toList <:+: t.data.toList) := occ_infix _ _ k hb
        clear hb
        go_wp2
        go_ret
        exact ⟨ret_bool (by rw [decide_eq_true HY.out]), rfl⟩
      | false =>
        rw [hb] at he
        have HJ2 : Hid (∀ j, j < k + 1 → Lib.occAt t.data.toList w.data.toList j = false) := by
          intro j hj
          by_cases e : j = k
          · subst e; exact hb
          · exact HJ.out j (by omega)
        clear hb
        go_wp2
        go_round
        case rel => exact ⟨k + 1, by omega, by go_num, HJ2⟩
        case measure => simp [intOf]; omega
    · have hltI : ¬ (k : Int) + (w.size : Int) ≤ (t.size : Int) := by omega
      have HN : Hid (¬ w.data.toList <:+: t.data.toList) := by
        show ¬ _
        rw [infix_iff_occ]
        rintro ⟨i, h1, h2⟩
        rw [HTL.out, HWL.out] at h1
        have := HJ.out i (by omega)
        rw [this] at h2; cases h2
      go_wp2
      go_ret
      exact ⟨ret_bool (by rw [decide_eq_false HN.out]), rfl⟩
theorem plHas_b (t w : ByteArray) (b : Bool) (W : World) (ht : t.size ≤ 1048576) (hw : w.size ≤ 1048576) (h : decide (w.data.toList <:+: t.data.toList) = b) :
    Calls Tryd.prog 35 #[.string t, .string w] W fun e w' => e = .returned (.bool b) ∧ W = w' := by subst h; exact plHas_any t w W ht hw
theorem free_no {ts : List (List UInt8)} {t : List UInt8} (k : Nat) (hk : k < ts.length) (h : ts.getD k [] <:+: t) : ¬ Free ts t := by
  intro hf
  rw [List.getD_eq_getElem?_getD, List.getElem?_eq_getElem hk] at h
  exact hf _ (List.getElem_mem hk) h
theorem free_yes {ts : List (List UInt8)} {t : List UInt8} (h : ∀ k, k < ts.length → ¬ ts.getD k [] <:+: t) : Free ts t := by
  intro w hw
  obtain ⟨k, hk, rfl⟩ := List.mem_iff_getElem.1 hw
  have := h k hk
  rwa [List.getD_eq_getElem?_getD, List.getElem?_eq_getElem hk] at this
set_option maxHeartbeats 1000000 in
theorem plClean_any (P B t : ByteArray) (ts : List (List UInt8)) (v : Value) (w : World) (ht0 : t.size ≤ 1048576) (hn : ts.length ≤ 1048576) (ht : ∀ i, i < ts.length → (ts.getD i []).length ≤ 1048576) (h : Rd ts v w) :
    Calls Tryd.prog 70 #[.agg #[.string P, .string B, v], .string t] w fun e w' => e = .returned (.bool (decide (Free ts t.data.toList))) ∧ Below w.heap.size w w' := by
  have HV := Lib.hid h
  obtain ⟨a, cap, rfl, _⟩ := h
  have HT := Lib.hid ht
  obtain ⟨n, hnn⟩ : ∃ n, n = ts.length := ⟨_, rfl⟩
  have HN := Lib.hid hnn
  rw [← hnn] at hn
  rw [← hnn]
  clear ht hnn
  go_enter Tryd.func70, Tryd.ntmps70
  go_wp2
  obtain ⟨b0, hb00⟩ : ∃ b0, b0 = w.heap.size := ⟨_, rfl⟩
  obtain ⟨W, hW⟩ : ∃ W, W = w.alloc (.cells #[.string P, .string B, .slice a n cap] 26) := ⟨_, rfl⟩
  have hblk : Below w.heap.size w W := by rw [hW]; exact (Below.refl _ _).alloc (Nat.le_refl _) _
  have HV2 : Hid (Rd ts (.slice a ts.length cap) W) := HV.out.below hblk
  have HBLK : Hid (Below w.heap.size w W) := hblk
  rw [← hW, ← hb00]
  clear hblk hW hb00
  go_loop [10] (fun i => ∃ k : Nat, k ≤ n ∧ i = .int .i64 k ∧ Hid (∀ j, j < k → ¬ ts.getD j [] <:+: t.data.toList)) (fun i => n - (intOf i).toNat)
  case atStart => exact ⟨0, Nat.zero_le _, rfl, fun j hj => by omega⟩
  case round =>
    obtain ⟨k, hk, rfl, HJ⟩ := hrel
    by_cases hlt : k < n
    · have hlt2 : k < ts.length := by rw [← HN.out]; exact hlt
      obtain ⟨a', cap', hv', hcs⟩ := HV2.out
      have ha' : a = a' := by simp only [Value.slice.injEq] at hv'; exact hv'.1
      obtain ⟨g, o, hgo, hg, hcell⟩ := hcs k hlt2
      rw [← ha'] at hgo
      clear hv' ha'
      subst hgo
      obtain ⟨bb, hbb⟩ : ∃ bb : ByteArray, bb = ⟨(ts.getD k []).toArray⟩ := ⟨_, rfl⟩
      have hbs : bb.size ≤ 1048576 := by have := HT.out k hlt2; rw [hbb]; simpa [ByteArray.size] using this
      have hbd : bb.data.toList = ts.getD k [] := by rw [hbb]
      unfold strV at hcell
      rw [← hbb] at hcell
      have hltI : (k : Int) < (n : Int) := by omega
      clear hcs hbb
      by_cases hb : ts.getD k [] <:+: t.data.toList
      · have HB : Hid (decide (bb.data.toList <:+: t.data.toList) = true) := by show _ = _; rw [hbd]; exact decide_eq_true hb
        have HNO : Hid (¬ Free ts t.data.toList) := free_no k hlt2 hb
        clear hb hbd
        go_wp2_with (go_at_call 35; refine (plHas_b t bb true _ ht0 hbs HB.out).mono ?_; rintro e w' ⟨rfl, rfl⟩)
        go_ret
        exact ⟨ret_bool (by rw [decide_eq_false HNO.out]), HBLK.out⟩
      · have HB : Hid (decide (bb.data.toList <:+: t.data.toList) = false) := by show _ = _; rw [hbd]; exact decide_eq_false hb
        have HJ2 : Hid (∀ j, j < k + 1 → ¬ ts.getD j [] <:+: t.data.toList) := by
          intro j hj
          by_cases e : j = k
          · subst e; exact hb
          · exact HJ.out j (by omega)
        clear hb hbd
        go_wp2_with (go_at_call 35; refine (plHas_b t bb false _ ht0 hbs HB.out).mono ?_; rintro e w' ⟨rfl, rfl⟩)
        go_round
        case rel => exact ⟨k + 1, by omega, by go_num, HJ2⟩
        case measure => simp [intOf]; omega
    · have hltI : ¬ (k : Int) < (n : Int) := by omega
      have HY : Hid (Free ts t.data.toList) := free_yes (fun j hj => HJ.out j (by have := HN.out; omega))
      go_wp2
      go_ret
      exact ⟨ret_bool (by rw [decide_eq_true HY.out]), HBLK.out⟩
end Go.Proofs.YtaomcimmhlpflaaDoor
