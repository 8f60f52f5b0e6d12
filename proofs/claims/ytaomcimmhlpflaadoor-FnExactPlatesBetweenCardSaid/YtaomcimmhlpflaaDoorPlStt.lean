/-
  The end of a text that is kept: the model's side.
-/
import Derived.Test.YtaomcimmhlpflaaDoorPlSts
import Derived.Deep.LoopGhost
namespace Go.Proofs.YtaomcimmhlpflaaDoor
open Go.RowKit

theorem below_drewN {B : Nat} {a w : World} (h : Below B a w) (n : Nat) : Below B a (w.drewN n) := ⟨h.os, h.tape, h.output, h.size, h.block⟩
theorem gb_cell {w w' : World} {r : Nat} (k : w.grownBy w' (some r)) {p : Addr} (h1 : p.block < w.heap.size) (h2 : p.block ≠ r) : w'.cell? p = w.cell? p :=
  World.cell?_of_block (w := w) (k.block p.block h1 (fun e => by cases e; exact h2 rfl))
theorem gb_refl (b : Nat) (w : World) : w.grownBy w (some b) := ⟨rfl, rfl, rfl, Nat.le_refl _, fun _ _ _ => rfl⟩
theorem gb_below {b : Nat} {w w' w'' : World} (h : w.grownBy w' (some b)) (k : Below w'.heap.size w' w'') : w.grownBy w'' (some b) :=
  ⟨k.os.trans h.os, k.tape.trans h.tape, k.output.trans h.output, Nat.le_trans h.size k.size, fun i hi hne => (k.block i (Nat.lt_of_lt_of_le hi h.size)).trans (h.block i hi hne)⟩
theorem gb_trans {b : Nat} {w w' w'' : World} (h : w.grownBy w' (some b)) (k : w'.grownBy w'' (some b)) : w.grownBy w'' (some b) :=
  ⟨k.os.trans h.os, k.tape.trans h.tape, k.output.trans h.output, Nat.le_trans h.size k.size, fun i hi hne => (k.block i (Nat.lt_of_lt_of_le hi h.size) hne).trans (h.block i hi hne)⟩
theorem gb_to {b B : Nat} {w w' : World} (h : w.grownBy w' (some b)) (hB : B ≤ b) (hw : B ≤ w.heap.size) : Below B w w' :=
  ⟨h.os, h.tape, h.output, h.size, fun k hk => h.block k (by omega) (fun e => by cases e; omega)⟩
theorem stt_at {ts : List (List UInt8)} : ∀ (t : List UInt8) (k : Nat), (∀ i, i < k → beg ts (t.drop i) = false) → k < t.length → beg ts (t.drop k) = true → stt ts t = t.drop k := by
  intro t
  induction t with
  | nil => intro k _ h; simp at h
  | cons c r ih =>
    intro k h1 h2 h3
    cases k with
    | zero => rw [stt, if_pos (by simpa using h3)]; rfl
    | succ k =>
      have h0 := h1 0 (by omega)
      rw [stt_next (by simpa using h0), List.drop_succ_cons]
      exact ih k (fun i hi => by have := h1 (i + 1) (by omega); simpa using this) (by simpa using h2) (by simpa using h3)
theorem stt_none {ts : List (List UInt8)} : ∀ (t : List UInt8), (∀ i, i < t.length → beg ts (t.drop i) = false) → stt ts t = [] := by
  intro t
  induction t with
  | nil => intro _; rfl
  | cons c r ih =>
    intro h1
    have h0 := h1 0 (by simp)
    rw [stt_next (by simpa using h0)]
    exact ih (fun i hi => by have := h1 (i + 1) (by simp; omega); simpa using this)
theorem beg_no {ts : List (List UInt8)} {u : List UInt8} (h : ∀ j, j < ts.length → ¬ (u.length < (ts.getD j []).length ∧ (ts.getD j []).take u.length = u)) : beg ts u = false := by
  rw [Bool.eq_false_iff, ne_eq, beg_iff]
  rintro ⟨w, hw, hp, hl⟩
  obtain ⟨j, hj, rfl⟩ := List.getElem_of_mem hw
  have he : ts.getD j [] = ts[j] := by rw [List.getD_eq_getElem?_getD, List.getElem?_eq_getElem hj]; rfl
  exact h j hj (by rw [he]; exact ⟨hl, (List.prefix_iff_eq_take.1 hp).symm⟩)
theorem beg_yes {ts : List (List UInt8)} {u : List UInt8} {j : Nat} (hj : j < ts.length) (h1 : u.length < (ts.getD j []).length) (h2 : (ts.getD j []).take u.length = u) : beg ts u = true := by
  rw [beg_iff]
  exact ⟨_, getD_len hj, List.prefix_iff_eq_take.2 h2.symm, h1⟩
theorem extk (s : ByteArray) (k : Nat) : s.extract k s.size = ⟨(s.data.toList.drop k).toArray⟩ := by
  apply ByteArray.ext
  apply Array.ext'
  simp [ByteArray.data_extract]
  rw [List.take_of_length_le (by simp)]
set_option maxRecDepth 100000 in
set_option maxHeartbeats 4000000 in
theorem plState_any (P B t : ByteArray) (ts : List (List UInt8)) (v : Value) (w : World) (hn : ts.length ≤ 3) (ht : ∀ i, i < ts.length → (ts.getD i []).length ≤ 4) (hts : t.size ≤ 1048576) (ha : ∀ i (h : i < t.size), (t[i]'h).toNat < 128) (h : Rd ts v w) :
    Calls Tryd.prog 73 #[.agg #[.string P, .string B, v], .string t] w fun e w' => e = .returned (.string ⟨(stt ts t.data.toList).toArray⟩) ∧ Below w.heap.size w w' := by
  have HV := Lib.hid h
  obtain ⟨a, cap, rfl, _⟩ := h
  have HT := Lib.hid ht
  have HA := Lib.hid ha
  have htl : t.data.toList.length = t.size := by simp
  have HTL := Lib.hid htl
  obtain ⟨n, hnn⟩ : ∃ n, n = ts.length := ⟨_, rfl⟩
  have HN := Lib.hid hnn
  rw [← hnn] at hn
  rw [← hnn]
  clear ht hnn ha htl
  go_enter Tryd.func73, Tryd.ntmps73
  go_wp2
  obtain ⟨W, hW⟩ : ∃ W, W = (w.alloc (.cells #[.string P, .string B, .slice a n cap] 26)).iter t 0 := ⟨_, rfl⟩
  have hblk : Below w.heap.size w W := by rw [hW]; exact ((Below.refl _ _).alloc (Nat.le_refl _) _).alloc (by simp) _
  have hWs : W.heap.size = w.heap.size + 2 := by rw [hW]; simp [World.iter]
  have hWi : W.heap[w.heap.size + 1]? = some (.stringIter t 0) := by
    have := World.iter_heap (w.alloc (.cells #[.string P, .string B, .slice a n cap] 26)) t 0
    simp only [World.size_alloc] at this
    rw [hW]; exact this
  have hWc : W.cell? ⟨w.heap.size, 2, none⟩ = some (.slice a n cap) := by
    rw [hW]; simp [World.iter, go_sem]
  have HV2 : Hid (Rd ts (.slice a ts.length cap) w) := HV.out
  have HBLK := Lib.hid hblk
  rw [← hW]
  clear hblk hW
  obtain ⟨r, hr⟩ : ∃ r, r = w.heap.size + 1 := ⟨_, rfl⟩
  obtain ⟨b0, hb0⟩ : ∃ b0, b0 = w.heap.size := ⟨_, rfl⟩
  rw [← hr] at hWi ⊢
  rw [← hb0] at hWc ⊢
  have hrb : b0 < r := by omega
  have hrW : r < W.heap.size := by omega
  have HR0 : Hid (W.heap[r]? = some (.stringIter t 0)) := hWi
  have HC2 := Lib.hid hWc
  have HB0 := Lib.hid hb0
  clear hWi hr hWs hWc hb0
  go_loopg [] t.size (fun m wr => ∃ k : Nat, k + m = t.size ∧ Hid (wr.heap[r]? = some (.stringIter t k)) ∧ Hid (W.grownBy wr (some r)) ∧ Hid (∀ i, i < k → beg ts (t.data.toList.drop i) = false))
  case atStart => exact ⟨0, by omega, HR0, gb_refl _ _, fun i hi => by omega⟩
  case round =>
    obtain ⟨k, hkm, HI, HG, HJ⟩ := hrel
    have hgs := HG.out.size
    by_cases hlt : k < t.size
    · go_wp2_with (at_next; refine wpList_next_str _ rfl _ rfl r t k rfl HI.out hlt (HA.out k hlt) ?_; intro w1 hr1 hg1 hs1; have HI1 := Lib.hid hr1; have HG1 := Lib.hid (gb_trans HG.out hg1); clear hr1 hg1; have d2 := (gb_cell HG1.out (p := ⟨b0, 2, none⟩) (by show b0 < _; omega) (by show b0 ≠ r; omega)).trans HC2.out; clear hs1)
      obtain ⟨D, hD⟩ : ∃ D, D = t.size - k := ⟨_, rfl⟩
      have HX := Lib.hid (extk t k)
      have HDL : Hid ((t.data.toList.drop k).length = D) := by show _ = _; rw [List.length_drop, HTL.out, hD]
      have hDI : (t.size : Int) - (k : Int) = (D : Int) := by omega
      have hDb1 : (D : Int) ≤ 1048576 := by omega
      clear hD
      go_loopw [16] (fun i wr => ∃ (j q : Nat), j ≤ n ∧ i = .int .i64 j ∧ wr = w1.drewN q ∧ Hid (∀ j', j' < j → ¬ ((t.data.toList.drop k).length < (ts.getD j' []).length ∧ (ts.getD j' []).take (t.data.toList.drop k).length = t.data.toList.drop k))) (fun i _ => n - (intOf i).toNat)
      case atStart => exact ⟨0, 0, Nat.zero_le _, rfl, rfl, fun j hj => by omega⟩
      case round =>
        obtain ⟨j, q, hj, rfl, rfl, HJ2⟩ := hrel
        by_cases hltj : j < n
        · have hlt2 : j < ts.length := by rw [← HN.out]; exact hltj
          obtain ⟨a', cap', hv', hcs⟩ := HV2.out
          have ha' : a = a' := by simp only [Value.slice.injEq] at hv'; exact hv'.1
          obtain ⟨g, o, hgo, hg, hcell⟩ := hcs j hlt2
          rw [← ha'] at hgo
          clear hv' ha'
          subst hgo
          have hcell := ((HBLK.out.cell (p := ⟨g, o + j, none⟩) hg).trans hcell)
          have hcell := (gb_cell HG1.out (p := ⟨g, o + j, none⟩) (by show g < _; have := HBLK.out.size; omega) (by show g ≠ r; have := HB0.out; omega)).trans hcell
          obtain ⟨bb, hbb⟩ : ∃ bb : ByteArray, bb = ⟨(ts.getD j []).toArray⟩ := ⟨_, rfl⟩
          have hbd : bb.data.toList = ts.getD j [] := by rw [hbb]
          have HBD := Lib.hid hbd
          have HBL : Hid ((ts.getD j []).length = bb.size) := by show _ = _; rw [← hbd]; simp
          have hbl4 : bb.size ≤ 4 := by have := HT.out j hlt2; rw [HBL.out] at this; exact this
          unfold strV at hcell
          rw [← hbb] at hcell
          have hltI : (j : Int) < (n : Int) := by omega
          have hj0 : (0 : Int) ≤ (j : Int) := by omega
          clear hcs hbb hbd
          have hD0 : (0 : Int) ≤ (D : Int) := by omega
          have hk0 : (0 : Int) ≤ (k : Int) := by omega
          have hkt : (k : Int) ≤ (t.size : Int) := by omega
          have hd0 : w1.heap.size = w1.heap.size := rfl
          by_cases hsh : D < bb.size
          · have hshI : (D : Int) < (bb.size : Int) := by omega
            have hDb : (D : Int) ≤ (bb.size : Int) := by omega
            have HE := Lib.hid (ext0 bb D (by omega))
            have HEQ : Hid ((bb.extract 0 D).data.toList = (ts.getD j []).take D ∧ (t.extract k t.size).data.toList = t.data.toList.drop k) := by
              show _ ∧ _
              rw [HE.out, HX.out, HBD.out]
              exact ⟨rfl, rfl⟩
            by_cases heq : (ts.getD j []).take D = t.data.toList.drop k
            · have hq := bytes_beq (bb.extract 0 D) (t.extract k t.size) true (by rw [HEQ.out.1, HEQ.out.2]; exact decide_eq_true heq)
              have HST : Hid (stt ts t.data.toList = t.data.toList.drop k) := stt_at _ k HJ.out (by rw [HTL.out]; exact hlt) (beg_yes hlt2 (by rw [HDL.out, HBL.out]; exact hsh) (by rw [HDL.out]; exact heq))
              clear heq
              go_wp2
              go_quiet (fail)
              go_wp2
              go_ret
              refine ⟨?_, ?_⟩
              · rw [HST.out, ← HX.out]; rfl
              · exact below_drewN (HBLK.out.trans (gb_to HG1.out (by have := HB0.out; omega) HBLK.out.size)) _
            · have hq := bytes_beq (bb.extract 0 D) (t.extract k t.size) false (by rw [HEQ.out.1, HEQ.out.2]; exact decide_eq_false heq)
              have HJ3 : Hid (∀ j', j' < j + 1 → ¬ ((t.data.toList.drop k).length < (ts.getD j' []).length ∧ (ts.getD j' []).take (t.data.toList.drop k).length = t.data.toList.drop k)) := by
                intro j' hj'
                by_cases e : j' = j
                · subst e; rw [HDL.out]; exact fun h => heq h.2
                · exact HJ2.out j' (by omega)
              clear heq
              go_wp2
              go_quiet (fail)
              go_wp2
              go_roundw
              case rel => exact ⟨j + 1, q + nq, by omega, by go_num, rfl, HJ3⟩
              case measure => simp [intOf]; omega
          · have hshI : ¬ (D : Int) < (bb.size : Int) := by omega
            have HJ3 : Hid (∀ j', j' < j + 1 → ¬ ((t.data.toList.drop k).length < (ts.getD j' []).length ∧ (ts.getD j' []).take (t.data.toList.drop k).length = t.data.toList.drop k)) := by
              intro j' hj'
              by_cases e : j' = j
              · subst e; rw [HDL.out, HBL.out]; exact fun h => hsh h.1
              · exact HJ2.out j' (by omega)
            go_wp2
            go_quiet (fail)
            go_wp2
            go_roundw
            case rel => exact ⟨j + 1, q + nq, by omega, by go_num, rfl, HJ3⟩
            case measure => simp [intOf]; omega
        · have hltI : ¬ (j : Int) < (n : Int) := by omega
          have HNB : Hid (beg ts (t.data.toList.drop k) = false) := beg_no (fun j' hj' => HJ2.out j' (by have := HN.out; omega))
          go_wp2
          go_roundg (gk - 1)
          case measure => omega
          case rel =>
            refine ⟨k + 1, by omega, HI1.out, ⟨HG1.out.os, HG1.out.tape, HG1.out.output, HG1.out.size, HG1.out.block⟩, ?_⟩
            intro i hi
            by_cases e : i = k
            · subst e; exact HNB.out
            · exact HJ.out i (by omega)
    · have HST : Hid (stt ts t.data.toList = []) := stt_none _ (fun i hi => HJ.out i (by have := HTL.out; omega))
      go_wp2_with (at_next; refine wpList_next_end _ rfl _ rfl r t k rfl HI.out hlt ?_)
      go_ret
      refine ⟨by rw [HST.out]; rfl, ?_⟩
      exact HBLK.out.trans (gb_to HG.out (by have := HB0.out; omega) HBLK.out.size)
end Go.Proofs.YtaomcimmhlpflaaDoor
