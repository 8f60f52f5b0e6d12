/-
  Schemes read from texts: the program's side.
-/
import Derived.Test.YtkeedoieadlbdabDoorPlPp
import Derived.Test.YtkeedoieadlbdabDoorPlAw
import Derived.Test.YtkeedoieadlbdabDoorPlWi
import Derived.Test.YtkeedoieadlbdabDoorPlOff
namespace Go.Proofs.YtkeedoieadlbdabDoor
open Go.RowKit

theorem heap_one {w w1 : World} {o : Obj} (b1 : Below (w.alloc o).heap.size (w.alloc o) w1) : w1.heap[w.heap.size]? = some o := by
  have z1 : (w.alloc o).heap.size = w.heap.size + 1 := World.size_alloc _ _
  rw [b1.block _ (by omega)]
  exact (MapKept.heap_alloc _ _).1
theorem heap_kept {w w1 : World} {i : Nat} {o : Obj} (b : Below w.heap.size w w1) (h : w.heap[i]? = some o) : w1.heap[i]? = some o := (b.block _ (lt_of_heap' h)).trans h
theorem drew_below (w : World) (n : Nat) : Below w.heap.size w (w.drewN n) := below_drewN (Below.refl _ _) n
/-- The pieces of a text at 126, as the program parts it. -/
theorem isplit_any (s : ByteArray) (w : World) (hs : s.size ≤ 1048576) (hm : MaxIs w) :
    Calls Tryd.prog 10 #[.string s, .string ⟨#[126]⟩] w fun e w' => (∃ g, e = .returned (.slice (some ⟨g, 0, none⟩) ((pds s.data.toList).length + 1) ((pds s.data.toList).length + 1)) ∧ Strs w.heap.size (hd0 s.data.toList :: pds s.data.toList) (.slice (some ⟨g, 0, none⟩) ((pds s.data.toList).length + 1) ((pds s.data.toList).length + 1)) w' ∧ w'.cell? ⟨g, 0, none⟩ = some (.string ⟨(hd0 s.data.toList).toArray⟩)) ∧ Below w.heap.size w w' := by
  obtain ⟨m, hm⟩ := hm
  refine (Tryd.strings_Split s ⟨#[126]⟩ m w (by omega) hm (Nat.le_refl 1)).mono ?_
  rintro e w' ⟨rfl, rfl⟩
  have hl := splitB_len s 126
  have he := (splitB_spl s 126).trans (pcs_eq _)
  have hn : (pds s.data.toList).length + 1 = Lib.countB s ⟨#[126]⟩ + 1 := by
    have := congrArg List.length he
    rw [List.length_map, hl, List.length_cons] at this
    exact this.symm
  have hp := pds_len s.data.toList
  have hz : s.data.toList.length = s.size := by simp
  have hS := Strs.laidL w (Lib.splitB ⟨#[126]⟩ 0 (Lib.countB s ⟨#[126]⟩) s) (by omega)
  rw [he, hl, ← hn] at hS
  refine ⟨⟨w.heap.size, by rw [hn], hS, ?_⟩, (Below.refl _ _).alloc (Nat.le_refl _) _⟩
  have h := hS
  unfold Strs at h
  rw [List.length_cons] at h
  rw [h.cellAt 0 (by omega)]; rfl
theorem icut_any (s : ByteArray) (d : ByteArray) (w : World) (hs : d.size ≤ 1048576) (hm : MaxIs w) (hd : d = ⟨(hd0 s.data.toList).toArray⟩) :
    Calls Tryd.prog 11 #[.string d, .string ⟨#[33]⟩] w fun e w' => (∃ z, e = .returned (.tuple #[.string ⟨(pP s.data.toList).toArray⟩, .string ⟨(pB s.data.toList).toArray⟩, .bool z])) ∧ Below w.heap.size w w' := by
  obtain ⟨m, hm⟩ := hm
  refine (Tryd.strings_Cut d ⟨#[33]⟩ m w (by omega) hm).mono ?_
  rintro e w' ⟨rfl, n, rfl⟩
  subst hd
  exact ⟨⟨_, rfl⟩, drew_below w n⟩
theorem iST_b (P B : ByteArray) (ts : List (List UInt8)) (v : Value) (b : Bool) (t : ByteArray) (w : World) (hf : Fit P B ts) (h : Rd ts v w) (hb : schB P.data.toList B.data.toList ts = b) (ht : stO P B ts = t) :
    Calls Tryd.prog 12 #[.agg #[.string P, .string B, v]] w fun e w' => e = .returned (.tuple #[.string t, .bool b]) ∧ Below w.heap.size w w' := by subst hb; subst ht; exact iSchemeText_any P B ts v w hf h
/-- A slice that begins behind the first one of a row of the call's own; or none. -/
def Ov (B : Nat) (us : List (List UInt8)) (v : Value) (w : World) : Prop :=
  (∃ a cap, v = .slice a 0 cap ∧ us = []) ∨ ∃ g d cw cap, v = .slice (some ⟨g, 1, none⟩) us.length cap ∧ B ≤ g ∧ Strs g (d :: us) (.slice (some ⟨g, 0, none⟩) (us.length + 1) cw) w
def rP (T : List UInt8) (P : List UInt8) : ByteArray := if pO T then ⟨P.toArray⟩ else ⟨#[]⟩
def rT (T : List UInt8) : List (List UInt8) := if pO T then pds T else []
theorem ret_pair {v v' : Value} {P P' B B' : ByteArray} {p q : Bool} (h1 : P = P') (h2 : B = B') (h3 : v = v') (h4 : p = q) : Ending.returned (.tuple #[.agg #[.string P, .string B, v], .bool p]) = .returned (.tuple #[.agg #[.string P', .string B', v'], .bool q]) := by rw [h1, h2, h3, h4]
set_option maxRecDepth 100000 in
set_option maxHeartbeats 8000000 in
theorem iParse_any (s : ByteArray) (w : World) (hs : s.size ≤ 1048576) (hm : MaxIs w) :
    Calls Tryd.prog 5 #[.string s] w fun e w' => (∃ v, e = .returned (.tuple #[.agg #[.string (rP s.data.toList (pP s.data.toList)), .string (rP s.data.toList (pB s.data.toList)), v], .bool (pO s.data.toList)]) ∧ Ov w.heap.size (rT s.data.toList) v w') ∧ Below w.heap.size w w' := by
  have HM := Lib.hid hm
  clear hm
  have hz : s.data.toList.length = s.size := by simp
  obtain ⟨T, hT⟩ : ∃ T, T = s.data.toList := ⟨_, rfl⟩
  have hP := pP_len T
  have hB := pB_len T
  have hd := hd0_len T
  have hf := fitO T (pB T) (by rw [hT]; omega) hB
  obtain ⟨d', hd'⟩ : ∃ d' : ByteArray, d' = ⟨(hd0 T).toArray⟩ := ⟨_, rfl⟩
  obtain ⟨P', hP'⟩ : ∃ P' : ByteArray, P' = ⟨(pP T).toArray⟩ := ⟨_, rfl⟩
  obtain ⟨B', hB'⟩ : ∃ B' : ByteArray, B' = ⟨(pB T).toArray⟩ := ⟨_, rfl⟩
  obtain ⟨n, hn⟩ : ∃ n, n = (pds T).length := ⟨_, rfl⟩
  have hds : d'.size ≤ 1048576 := by rw [hd']; show (hd0 T).toArray.size ≤ _; rw [List.size_toArray]; rw [hT] at hd ⊢; omega
  have hnl : n ≤ 1048576 := by rw [hn]; exact hf.n
  have Hsp : Hid (∀ W : World, MaxIs W → Calls Tryd.prog 10 #[.string s, .string ⟨#[126]⟩] W fun e w' => (∃ g, e = .returned (.slice (some ⟨g, 0, none⟩) (n + 1) (n + 1)) ∧ Strs W.heap.size (hd0 T :: pds T) (.slice (some ⟨g, 0, none⟩) (n + 1) (n + 1)) w' ∧ w'.cell? ⟨g, 0, none⟩ = some (.string d')) ∧ Below W.heap.size W w') := by
    intro W hW
    have h := isplit_any s W hs hW
    rw [← hT, ← hn, ← hd'] at h
    exact h
  have Hcut : Hid (∀ W : World, MaxIs W → Calls Tryd.prog 11 #[.string d', .string ⟨#[33]⟩] W fun e w' => (∃ z, e = .returned (.tuple #[.string P', .string B', .bool z])) ∧ Below W.heap.size W w') := by
    intro W hW
    have h := icut_any s d' W hds hW (by rw [hd', hT])
    rw [← hT, ← hP', ← hB'] at h
    exact h
  have HF := Lib.hid hf
  have HN := Lib.hid hn
  rw [← hP', ← hB'] at HF
  have HTX := Lib.hid hT
  have HP := Lib.hid hP'
  have HB := Lib.hid hB'
  rw [← hT]
  have eP : P'.data.toList = pP T := by rw [hP']
  have eB : B'.data.toList = pB T := by rw [hB']
  have HG : ∀ (g c c' : Nat) (W : World), Strs g (hd0 T :: pds T) (.slice (some ⟨g, 0, none⟩) (n + 1) c) W → Rd (pds T) (.slice (if n = 0 then some ⟨g, 0, none⟩ else some ⟨g, 1, none⟩) n c') W := fun g c c' W h => by
    by_cases h0 : n = 0
    · exact ⟨_, c', by rw [← HN.out], fun i hi => by rw [← HN.out] at hi; omega⟩
    · rw [if_neg h0]; exact h.tailRd HN.out.symm
  have HR := Lib.hid HG
  have Hts : ∃ ts, ts = pds T := ⟨_, rfl⟩
  clear hz hT hP hB hd hf hd' hP' hB' hn HG hds Hts
  cases hz : schB P'.data.toList B'.data.toList (pds T) with
  | false =>
    have Hst : Hid (∀ (v : Value) (W : World), Rd (pds T) v W → Calls Tryd.prog 12 #[.agg #[.string P', .string B', v]] W fun e w' => e = .returned (.tuple #[.string ⟨#[]⟩, .bool false]) ∧ Below W.heap.size W w') := fun v W h => iST_b P' B' _ v false _ W HF.out h hz (by unfold stO; rw [hz]; rfl)
    have HO : Hid (pO T = false) := by show _ = _; unfold pO; rw [← eP, ← eB, hz]; rfl
    clear hz eP eB
    go_enter Tryd.func5, Tryd.ntmps5
    go_wp2_with (first
    | (go_at_call 10; (with_reducible refine (Hsp.out _ (HM.out.below (by go_grown))).mono ?_); rintro e w1 ⟨⟨g, rfl, hs1, hc1⟩, b1⟩; have hp := heap_one b1; have B1 : Below w.heap.size w w1 := chain (w := w) (by go_grown) b1; have HS1 := Lib.hid hs1; have hgw := Nat.lt_of_lt_of_le (lt_of_heap' (MapKept.heap_alloc w _).1) hs1.baseLe.1; clear hs1)
    | (go_at_call 11; (with_reducible refine (Hcut.out _ (HM.out.below B1)).mono ?_); rintro e w2 ⟨⟨z, rfl⟩, b2⟩; have hp2 := heap_kept b2 hp; have B2 : Below w.heap.size w w2 := chain B1 b2; have HS2 := Lib.hid (HS1.out.below b2))
    | (go_at_call 12; (with_reducible refine (Hst.out _ _ (HR.out _ _ _ _ (HS2.out.self.alloc _))).mono ?_); rintro e w3 ⟨rfl, b3⟩; have hp4 := heap_one b3; have hb23 : Below w2.heap.size w2 w3 := chain (w := w2) (by go_grown) b3; have hp3 := heap_kept hb23 hp2; have B3 : Below w.heap.size w w3 := chain B2 hb23; have HS3 := Lib.hid (HS2.out.self.below hb23); obtain ⟨c0, c1, c2, f1, s1⟩ := blk_cells hp3; obtain ⟨d0, d1, d2, f2, s2⟩ := blk_cells hp4; have hq1 := lt_of_heap' hp2; have hq2 : ¬ w.heap.size = w2.heap.size := by omega))
    all_goals
      refine bodyPost_ret (results_row_tmp rfl _ _ w.heap.size 24 #[.string ⟨#[]⟩, .string ⟨#[]⟩, .slice none 0 0] (0, 0) _ rfl ?_ Tryd.underlying24 rfl (by kernel_rfl)) rfl ?_
      · simp [World.setCell, Array.getElem?_modify, hp3]
      refine ⟨⟨.slice none 0 0, ret_pair (by unfold rP; rw [HO.out]; rfl) (by unfold rP; rw [HO.out]; rfl) rfl HO.out.symm, .inl ⟨_, _, rfl, by unfold rT; rw [HO.out]; rfl⟩⟩, ?_⟩
      exact below_low (below_low (below_low B3 _ _ _ (by omega)) _ _ _ (by omega)) _ _ _ (by omega)
  | true =>
    by_cases ht : stx (pP T) (pB T) (pds T) = T
    · have Hst : Hid (∀ (v : Value) (W : World), Rd (pds T) v W → Calls Tryd.prog 12 #[.agg #[.string P', .string B', v]] W fun e w' => e = .returned (.tuple #[.string s, .bool true]) ∧ Below W.heap.size W w') := fun v W h => iST_b P' B' _ v true _ W HF.out h hz (by unfold stO; rw [hz, eP, eB, ht, HTX.out]; rfl)
      have HO : Hid (pO T = true) := by show _ = _; unfold pO; rw [← eP, ← eB, hz, eP, eB, decide_eq_true ht]; rfl
      clear hz eP eB ht
      go_enter Tryd.func5, Tryd.ntmps5
      go_wp2_with (first
      | (go_at_call 10; (with_reducible refine (Hsp.out _ (HM.out.below (by go_grown))).mono ?_); rintro e w1 ⟨⟨g, rfl, hs1, hc1⟩, b1⟩; have hp := heap_one b1; have B1 : Below w.heap.size w w1 := chain (w := w) (by go_grown) b1; have HS1 := Lib.hid hs1; have hgw := Nat.lt_of_lt_of_le (lt_of_heap' (MapKept.heap_alloc w _).1) hs1.baseLe.1; clear hs1)
      | (go_at_call 11; (with_reducible refine (Hcut.out _ (HM.out.below B1)).mono ?_); rintro e w2 ⟨⟨z, rfl⟩, b2⟩; have hp2 := heap_kept b2 hp; have B2 : Below w.heap.size w w2 := chain B1 b2; have HS2 := Lib.hid (HS1.out.below b2))
      | (go_at_call 12; (with_reducible refine (Hst.out _ _ (HR.out _ _ _ _ (HS2.out.self.alloc _))).mono ?_); rintro e w3 ⟨rfl, b3⟩; have hp4 := heap_one b3; have hb23 : Below w2.heap.size w2 w3 := chain (w := w2) (by go_grown) b3; have hp3 := heap_kept hb23 hp2; have B3 : Below w.heap.size w w3 := chain B2 hb23; have HS3 := Lib.hid (HS2.out.self.below hb23); obtain ⟨c0, c1, c2, f1, s1⟩ := blk_cells hp3; obtain ⟨d0, d1, d2, f2, s2⟩ := blk_cells hp4; have hq1 := lt_of_heap' hp2; have hq2 : ¬ w.heap.size = w2.heap.size := by omega))
      case inl =>
        have h0 := h
        have eT : rT T = pds T := by unfold rT; rw [HO.out]; rfl
        refine bodyPost_ret (results_row_tmp rfl _ _ w.heap.size 24 #[.string P', .string B', .slice (some ⟨g, 0, none⟩) 0 0] (0, 0) _ rfl ?_ Tryd.underlying24 rfl (by kernel_rfl)) rfl ?_
        · simp [World.setCell, Array.getElem?_modify, hp3]
        refine ⟨⟨.slice (some ⟨g, 0, none⟩) 0 0, ret_pair (by unfold rP; rw [HO.out]; exact HP.out) (by unfold rP; rw [HO.out]; exact HB.out) rfl HO.out.symm, .inl ⟨_, _, rfl, by rw [eT]; exact List.eq_nil_of_length_eq_zero (by rw [← HN.out]; exact h0)⟩⟩, ?_⟩
        exact below_low (below_low (below_low B3 _ _ _ (by omega)) _ _ _ (by omega)) _ _ _ (by omega)
      case inr =>
        have h0 := h
        have eT : rT T = pds T := by unfold rT; rw [HO.out]; rfl
        refine bodyPost_ret (results_row_tmp rfl _ _ w.heap.size 24 #[.string P', .string B', .slice (some ⟨g, 1, none⟩) n n] (0, 0) _ rfl ?_ Tryd.underlying24 rfl (by kernel_rfl)) rfl ?_
        · simp [World.setCell, Array.getElem?_modify, hp3]
        refine ⟨⟨.slice (some ⟨g, 1, none⟩) n n, ret_pair (by unfold rP; rw [HO.out]; exact HP.out) (by unfold rP; rw [HO.out]; exact HB.out) rfl HO.out.symm, .inr ⟨g, hd0 T, n + 1, n, by rw [eT, ← HN.out], by omega, ?_⟩⟩, ?_⟩
        · rw [eT, ← HN.out]
          exact ((HS3.out.setLow (a := ⟨w.heap.size, 0, none⟩) (by simpa using hgw) (.string P')).setLow (a := ⟨w.heap.size, 1, none⟩) (by simpa using hgw) (.string B')).setLow (a := ⟨w.heap.size, 2, none⟩) (by simpa using hgw) (.slice (some ⟨g, 1, none⟩) n n)
        · exact below_low (below_low (below_low B3 _ _ _ (by omega)) _ _ _ (by omega)) _ _ _ (by omega)
    · obtain ⟨t, htt⟩ : ∃ t : ByteArray, t = ⟨(stx (pP T) (pB T) (pds T)).toArray⟩ := ⟨_, rfl⟩
      have Hst : Hid (∀ (v : Value) (W : World), Rd (pds T) v W → Calls Tryd.prog 12 #[.agg #[.string P', .string B', v]] W fun e w' => e = .returned (.tuple #[.string t, .bool true]) ∧ Below W.heap.size W w') := fun v W h => iST_b P' B' _ v true _ W HF.out h hz (by unfold stO; rw [hz, eP, eB, htt]; rfl)
      have HO : Hid (pO T = false) := by show _ = _; unfold pO; rw [decide_eq_false ht, Bool.and_false]
      have hne : ¬ t = s := fun e => ht (by have h := congrArg (fun b : ByteArray => b.data.toList) e; rw [htt, ← HTX.out] at h; exact h)
      have hq : (t.toList == s.toList) = false := by
        rw [ByteArray.toList_eq, ByteArray.toList_eq]
        exact Bool.eq_false_iff.2 (fun h => hne (by rw [bmk t, bmk s, eq_of_beq h]))
      clear hz eP eB ht htt
      go_enter Tryd.func5, Tryd.ntmps5
      go_wp2_with (first
      | (go_at_call 10; (with_reducible refine (Hsp.out _ (HM.out.below (by go_grown))).mono ?_); rintro e w1 ⟨⟨g, rfl, hs1, hc1⟩, b1⟩; have hp := heap_one b1; have B1 : Below w.heap.size w w1 := chain (w := w) (by go_grown) b1; have HS1 := Lib.hid hs1; have hgw := Nat.lt_of_lt_of_le (lt_of_heap' (MapKept.heap_alloc w _).1) hs1.baseLe.1; clear hs1)
      | (go_at_call 11; (with_reducible refine (Hcut.out _ (HM.out.below B1)).mono ?_); rintro e w2 ⟨⟨z, rfl⟩, b2⟩; have hp2 := heap_kept b2 hp; have B2 : Below w.heap.size w w2 := chain B1 b2; have HS2 := Lib.hid (HS1.out.below b2))
      | (go_at_call 12; (with_reducible refine (Hst.out _ _ (HR.out _ _ _ _ (HS2.out.self.alloc _))).mono ?_); rintro e w3 ⟨rfl, b3⟩; have hp4 := heap_one b3; have hb23 : Below w2.heap.size w2 w3 := chain (w := w2) (by go_grown) b3; have hp3 := heap_kept hb23 hp2; have B3 : Below w.heap.size w w3 := chain B2 hb23; have HS3 := Lib.hid (HS2.out.self.below hb23); obtain ⟨c0, c1, c2, f1, s1⟩ := blk_cells hp3; obtain ⟨d0, d1, d2, f2, s2⟩ := blk_cells hp4; have hq1 := lt_of_heap' hp2; have hq2 : ¬ w.heap.size = w2.heap.size := by omega))
      all_goals
        refine bodyPost_ret (results_row_tmp rfl _ _ w.heap.size 24 #[.string ⟨#[]⟩, .string ⟨#[]⟩, .slice none 0 0] (0, 0) _ rfl ?_ Tryd.underlying24 rfl (by kernel_rfl)) rfl ?_
        · simp [World.setCell, Array.getElem?_modify, hp3]
        refine ⟨⟨.slice none 0 0, ret_pair (by unfold rP; rw [HO.out]; rfl) (by unfold rP; rw [HO.out]; rfl) rfl HO.out.symm, .inl ⟨_, _, rfl, by unfold rT; rw [HO.out]; rfl⟩⟩, ?_⟩
        exact below_low (below_low (below_low B3 _ _ _ (by omega)) _ _ _ (by omega)) _ _ _ (by omega)
end Go.Proofs.YtkeedoieadlbdabDoor
