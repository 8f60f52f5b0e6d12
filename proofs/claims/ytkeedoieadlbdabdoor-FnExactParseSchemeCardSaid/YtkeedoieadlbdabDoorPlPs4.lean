/-
  Schemes read from texts: the model's side.
-/
import Derived.Test.YtkeedoieadlbdabDoorPlPs0
import Derived.Deep.RegionHeld3
namespace Go.Proofs.YtkeedoieadlbdabDoor
open Go.RowKit
set_option linter.unusedSimpArgs false
set_option maxRecDepth 100000 in
set_option maxHeartbeats 8000000 in
theorem plParse_one_bad (s : ByteArray) (w : World) (hs : s.size ≤ 1048576) (hl : ¬ 60 < s.size) (h2 : (spl 33 (hd0 s.data.toList)).length ≠ 2) (hz : schB (pP s.data.toList) (sB s.data.toList) (pds s.data.toList) = false) :
    Calls Tryd.prog 9 #[.string s] w fun e w' => (∃ a k, e = .returned (.tuple #[.agg #[.string (rP s.data.toList (pP s.data.toList)), .string (rP s.data.toList (pB s.data.toList)), .slice a (rT s.data.toList).length k], .bool (pO s.data.toList)]) ∧ Strs w.heap.size (rT s.data.toList) (.slice a (rT s.data.toList).length k) w') ∧ Below w.heap.size w w' := by
  have hz0 : s.data.toList.length = s.size := by simp
  have hlI : ¬ (60 : Int) < (s.size : Int) := by omega
  obtain ⟨T, hT⟩ : ∃ T, T = s.data.toList := ⟨_, rfl⟩
  have hP := pP_len T
  have hB := sB_len T
  have hd := hd0_len T
  have hf := fitO T (sB T) (by rw [hT]; omega) hB
  obtain ⟨d', hd'⟩ : ∃ d' : ByteArray, d' = ⟨(hd0 T).toArray⟩ := ⟨_, rfl⟩
  obtain ⟨P', hP'⟩ : ∃ P' : ByteArray, P' = ⟨(pP T).toArray⟩ := ⟨_, rfl⟩
  obtain ⟨B', hB'⟩ : ∃ B' : ByteArray, B' = ⟨(sB T).toArray⟩ := ⟨_, rfl⟩
  obtain ⟨n, hn⟩ : ∃ n, n = (pds T).length := ⟨_, rfl⟩
  obtain ⟨m, hm⟩ : ∃ m, m = (spl 33 (hd0 T)).length := ⟨_, rfl⟩
  obtain ⟨N, hNN⟩ : ∃ N, N = n + 1 := ⟨_, rfl⟩
  have hN0 : (0 : Int) < (N : Int) := by omega
  have HNN := Lib.hid hNN
  have hds : d'.size ≤ 1000 := by rw [hd']; show (hd0 T).toArray.size ≤ _; rw [List.size_toArray]; rw [hT] at hd ⊢; omega
  have hnl : n ≤ 1048576 := by rw [hn]; exact hf.n
  have hm0 : 0 < m := by rw [hm]; exact splF_pos _ _ _
  have hml : m ≤ 1000 := by
    have h1 := splF_len 33 (hd0 T) []
    rw [hm]; unfold spl
    rw [hT] at hd h1 ⊢
    omega
  have Hsp : Hid (∀ W : World, Calls Tryd.prog 16 #[.string s, .int .u8 126] W fun e w' => (∃ g c C aa, e = .returned (.slice (some ⟨g, 0, none⟩) N C) ∧ Hid (n ≤ c) ∧ Hid ((c = 0 ∧ aa = 0) ∨ (c ≠ 0 ∧ aa = 1)) ∧ (∀ W : World, (Instr.slice 22 (.slice (some ⟨g, 0, none⟩) N C) (some (.int .i64 1)) none none).run Tryd.prog W = .ok (.slice (some ⟨g, aa, none⟩) n c) W) ∧ Strs W.heap.size (hd0 T :: pds T) (.slice (some ⟨g, 0, none⟩) N C) w' ∧ w'.cell? ⟨g, 0, none⟩ = some (.string d')) ∧ Below W.heap.size W w') := by
    intro W
    have h := ssplit_any s W (by omega)
    rw [← hT, ← hn, ← hd'] at h
    refine h.mono ?_
    rintro e w' ⟨⟨g, c, rfl, h1, h2, h3⟩, b⟩
    obtain ⟨aa, haa⟩ : ∃ aa : Nat, (c = 0 ∧ aa = 0) ∨ (c ≠ 0 ∧ aa = 1) := by
      by_cases h : c = 0
      · exact ⟨0, .inl ⟨h, rfl⟩⟩
      · exact ⟨1, .inr ⟨h, rfl⟩⟩
    exact ⟨⟨g, c, c + 1, aa, by rw [hNN], h1, haa, sl1 g n c N (c + 1) aa hNN rfl haa, by rw [hNN]; exact h2, h3⟩, b⟩
  have Hhd : ∀ W : World, Calls Tryd.prog 16 #[.string d', .int .u8 33] W fun e w' => (∃ g c, e = .returned (.slice (some ⟨g, 0, none⟩) m c) ∧ g < w'.heap.size ∧ w'.cell? ⟨g, 0, none⟩ = some (.string P') ∧ (m = 2 → w'.cell? ⟨g, 1, none⟩ = some (.string B'))) ∧ Below W.heap.size W w' := by
    intro W
    have h := shead_any s d' W hds (by rw [hd', hT])
    rw [← hT, ← hm, ← hP', ← hB'] at h
    exact h
  have HF := Lib.hid hf
  have HN := Lib.hid hn
  rw [← hP', ← hB'] at HF
  have HTX := Lib.hid hT
  have HP := Lib.hid hP'
  have HB := Lib.hid hB'
  have HBm : Hid (m ≠ 2 → B' = ⟨#[]⟩) := fun h => by rw [hB']; unfold sB; rw [← hm, if_neg h]
  rw [← hT]
  have eP : P'.data.toList = pP T := by rw [hP']
  have eB : B'.data.toList = sB T := by rw [hB']
  have Hown : Hid (∀ (g c cc : Nat) (W : World), n ≤ c → Strs g (hd0 T :: pds T) (.slice (some ⟨g, 0, none⟩) (n + 1) cc) W → Calls Tryd.prog 17 #[.slice (if c = 0 then some ⟨g, 0, none⟩ else some ⟨g, 1, none⟩) n c] W fun e w' => (∃ ua uk, e = .returned (.slice ua n uk) ∧ Strs W.heap.size (pds T) (.slice ua n uk) w') ∧ Below W.heap.size W w') := fun g c cc W hc h => (sown_any g n c cc _ _ W HN.out hnl hc h).mono (by
    rintro e w' ⟨⟨u, rfl, hu⟩, b⟩
    obtain ⟨a, k, rfl⟩ := hu.len
    rw [← HN.out] at hu ⊢
    exact ⟨⟨a, k, rfl, hu⟩, b⟩)
  have hO := sO_eq T
  rw [← eP, ← eB] at hO
  have HEB : Hid (pO T = true → pB T = B'.data.toList) := fun h => by rw [eB]; exact (sB_eq T h).symm
  rw [← hT, ← hm] at h2
  rw [← hT, ← eP, ← eB] at hz
  clear hz0 hT hP hB hd hf hd' hP' hB' hn hds hm hNN
  have h2I : ¬ (m : Int) = 2 := by omega
  have h2q : ((m : Int) == 2) = false := by simpa using h2I
  have hm1 : (0 : Int) < (m : Int) := by omega
  have Hh : Hid (∀ W : World, Calls Tryd.prog 16 #[.string d', .int .u8 33] W fun e w' => (∃ g c, e = .returned (.slice (some ⟨g, 0, none⟩) m c) ∧ g < w'.heap.size ∧ w'.cell? ⟨g, 0, none⟩ = some (.string P')) ∧ Below W.heap.size W w') := fun W => (Hhd W).mono (by rintro e w' ⟨⟨g, c, h1, h3, h4, _⟩, b⟩; exact ⟨⟨g, c, h1, h3, h4⟩, b⟩)
  have eB0 : B' = ⟨#[]⟩ := HBm.out h2
  subst eB0
  clear Hhd HBm h2
  have HO : Hid (pO T = false) := by show _ = _; rw [← hO, hz]; rfl
  have Hgd : Hid (∀ (v : Value) (W : World), Rd (pds T) v W → Calls Tryd.prog 18 #[.agg #[.string P', .string ⟨#[]⟩, v]] W fun e w' => e = .returned (.bool false) ∧ Below W.heap.size W w') := fun v W h => sGood_b P' ⟨#[]⟩ _ v false _ HF.out h hz
  clear hz hO eP eB
  go_enter Tryd.func9, Tryd.ntmps9
  go_wp2_with (first
  | (go_at_call 16; (with_reducible refine (Hsp.out _).mono ?_); rintro e w1 ⟨⟨g, c, C, aa, rfl, hnc, haa, hsl, hs1, hc1⟩, b1⟩; have hp := heap_one b1; have B1 : Below w.heap.size w w1 := chain (w := w) (by go_grown) b1; have HS1 := Lib.hid hs1; clear hs1)
  | (go_at_call 16; (with_reducible refine (Hh.out _).mono ?_); rintro e w2 ⟨⟨g2, c2, rfl, hgl, hx0⟩, b2⟩; have hp2 := heap_kept b2 hp; have B2 : Below w.heap.size w w2 := chain B1 b2; have HS2 := Lib.hid (HS1.out.below b2).self; have hq1 := lt_of_heap' hp2))
  have Ho : Hid (∀ W : World, Strs g (hd0 T :: pds T) (.slice (some ⟨g, 0, none⟩) N C) W → Calls Tryd.prog 17 #[.slice (some ⟨g, aa, none⟩) n c] W fun e w' => (∃ ua uk, e = .returned (.slice ua n uk) ∧ Strs W.heap.size (pds T) (.slice ua n uk) w') ∧ Below W.heap.size W w') := fun W h => by
    have h2 := Hown.out g c C W hnc.out (by rw [HNN.out] at h; exact h)
    rcases haa.out with ⟨hc0, rfl⟩ | ⟨hc0, rfl⟩
    · rw [if_pos hc0] at h2; exact h2
    · rw [if_neg hc0] at h2; exact h2
  go_region_held3 (fun w' => w'.cell? ⟨g2, 0, none⟩ = some (.string P'))
    (first | go_keep | exact k0 | exact ((((B23.setCell (Nat.le_refl _) _).setCell (Nat.le_refl _) _).setCell (Nat.le_refl _) _).cell (p := ⟨g2, 0, none⟩) hgl).trans hx0 | exact (((((B23.setCell (Nat.le_refl _) _).setCell (Nat.le_refl _) _).setCell (Nat.le_refl _) _).setCell (Nat.le_refl _) _).cell (p := ⟨g2, 0, none⟩) hgl).trans hx0)
    (first
    | (go_at_call 17; (with_reducible refine (Ho.out _ (HS2.out.below (by go_grown))).mono ?_); rintro e w3 ⟨⟨ua, uk, rfl, hu⟩, b3⟩; have B23 : Below w2.heap.size w2 w3 := chain (w := w2) (by go_grown) b3; have hu1 : Strs w2.heap.size (pds T) (.slice ua n uk) w3 := hu.mono (show Below w2.heap.size w2 _ by go_grown).size; have HU := Lib.hid hu1; have k0 := (B23.cell (p := ⟨g2, 0, none⟩) hgl).trans hx0; have hp3 := heap_kept B23 hp2; have hgl3 : g2 < w3.heap.size := Nat.lt_of_lt_of_le hgl B23.size; have hr1 := lt_of_heap' hp3; have hr2 : ¬ w.heap.size = w3.heap.size := Nat.ne_of_lt hr1; have hr3 : ¬ w.heap.size = w2.heap.size := Nat.ne_of_lt hq1; (first | (have hpA : w3.heap[w2.heap.size]? = some (.cells #[.string ⟨#[]⟩, .string ⟨#[]⟩, .slice none 0 0] 24) := heap_kept b3 (MapKept.heap_alloc w2 (.cells #[.string ⟨#[]⟩, .string ⟨#[]⟩, .slice none 0 0] 24)).1; obtain ⟨x0, x1, x2, xf, xs⟩ := blk_cells hpA; have hxl := lt_of_heap' hpA; have HUa : Hid (Strs (w2.heap.size + 1) (pds T) (.slice ua n uk) w3) := hu.mono (Nat.le_of_eq (World.size_alloc w2 (.cells #[.string ⟨#[]⟩, .string ⟨#[]⟩, .slice none 0 0] 24)).symm); have hxB : w2.heap.size < w2.heap.size + 1 := Nat.lt_succ_self _) | skip); clear hu hu1))
  all_goals go_wp2_with ((go_at_call 18; (with_reducible refine (Hgd.out _ _ (by first | exact (HUa.out.set3 hxB _ _ _).rd | (refine HU.out.rd.below ?_; go_grown; done))).mono ?_); rintro e w4 ⟨rfl, b4⟩; (first | (have hck := hpA; clear hck; have hb24 : Below w2.heap.size w2 w4 := (((B23.setCell (Nat.le_refl _) _).setCell (Nat.le_refl _) _).setCell (Nat.le_refl _) _).trans (b4.mono (by simp [World.setCell]; omega)); have HU4 := Lib.hid (((HUa.out.set3 hxB _ _ _).below b4).mono (Nat.le_succ _))) | (have hb34 : Below w3.heap.size w3 w4 := (by refine chain (w := w3) ?_ b4; go_grown; done); have hb24 : Below w2.heap.size w2 w4 := chain B23 hb34; have HU4 := Lib.hid (HU.out.below hb34))); have hp4 := heap_kept hb24 hp2; (first | (have hy4 := heap_st3 hpA b4) | (have hy4 := heap_one b4)); obtain ⟨c0, c1, c2, f1, s1⟩ := blk_cells hp4; obtain ⟨d0, d1, d2, f2, s2⟩ := blk_cells hy4; have B4 : Below w.heap.size w w4 := chain B2 hb24))
  all_goals
    refine bodyPost_ret (results_row_tmp rfl _ _ w.heap.size 24 #[.string ⟨#[]⟩, .string ⟨#[]⟩, .slice none 0 0] (0, 0) _ rfl ?_ Tryd.underlying24 rfl (by kernel_rfl)) rfl ?_
    · simp [World.setCell, Array.getElem?_modify, hp4]
    exact ⟨⟨none, 0, ret_pair (by unfold rP; rw [HO.out]; rfl) (by unfold rP; rw [HO.out]; rfl) (by unfold rT; rw [HO.out]; rfl) HO.out.symm, by unfold rT; rw [HO.out]; exact World.ownsRow_nil _ _ _ _⟩, below_low (below_low (below_low B4 _ _ _ (by omega)) _ _ _ (by omega)) _ _ _ (by omega)⟩
end Go.Proofs.YtkeedoieadlbdabDoor
