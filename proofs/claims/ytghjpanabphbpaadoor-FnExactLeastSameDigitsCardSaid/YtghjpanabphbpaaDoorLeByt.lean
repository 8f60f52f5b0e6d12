/-
  Least numbers: bytes of a text in a row, turned round.
-/
import Derived.Test.YtghjpanabphbpaaDoorLeLeaf
import Derived.Test.YtghjpanabphbpaaDoorLeNo
import Derived.Lib.ConvBytes
import Derived.Deep.DrawnRows
namespace Go.Proofs.YtghjpanabphbpaaDoor
open Go.RowKit
set_option maxRecDepth 100000

/-- Block b holds n bytes. -/
structure BYt (w : World) (b n : Nat) (f : Nat → Int) : Prop where
  lt : b < w.heap.size
  cell : ∀ j, j < n → w.cell? ⟨b, j, none⟩ = some (.int .u8 (f j))
  fz : ∀ j, j < n → w.frozen? ⟨b, j, none⟩ = false
theorem BYt.put {w : World} {b n : Nat} {f g : Nat → Int} (h : BYt w b n f) (i : Nat) (x : Int) (hi : i < n) (hg : ∀ j, j < n → g j = if j = i then x else f j) : BYt (w.setCell ⟨b, i, none⟩ (.int .u8 x)) b n g := by
  refine ⟨by simpa [World.setCell] using h.lt, fun j hj => ?_, fun j hj => by rw [World.frozen?_setCell]; exact h.fz j hj⟩
  rw [hg j hj]
  by_cases e : j = i
  · subst e
    rw [if_pos rfl]; exact World.cell?_setCell_same (h := h.cell j hj) ..
  · rw [if_neg e]
    exact (World.cell?_setCell_other (h := fun h2 => e (by cases h2; rfl)) ..).trans (h.cell j hj)
theorem BYt.same {w : World} {b n : Nat} {f g : Nat → Int} (h : BYt w b n f) (e : ∀ j, j < n → f j = g j) : BYt w b n g := ⟨h.lt, fun j hj => by rw [← e j hj]; exact h.cell j hj, h.fz⟩
theorem BYt.drewN {w : World} {b n : Nat} {f : Nat → Int} (h : BYt w b n f) (k : Nat) : BYt (w.drewN k) b n f := ⟨h.lt, h.cell, h.fz⟩
theorem BYt.drw {w : World} {b n : Nat} {f : Nat → Int} (h : BYt w b n f) : BYt w.drew b n f := ⟨h.lt, h.cell, h.fz⟩
theorem bytes_new (w : World) (s : ByteArray) : BYt (Lib.bytesWorld w 5 s) w.heap.size s.size (fun j => ((s.data.toList.getD j 0).toNat : Int)) := by
  refine ⟨by rw [Lib.bytesWorld_size]; omega, fun j hj => Lib.bytesWorld_cell w _ s j hj, fun j hj => ?_⟩
  have hc := Lib.bytesWorld_cell w 5 s j hj
  have hb := Lib.bytesWorld_at_new w 5 s
  have hlt : j < (Lib.bytesCells w 5 s).size := by
    rcases Nat.lt_or_ge j (Lib.bytesCells w 5 s).size with h | h
    · exact h
    · rw [Lib.cell_of_heap hb, Array.getElem?_eq_none h] at hc; cases hc
  simp only [World.frozen?, hb]
  rw [Bool.and_eq_false_iff]; left
  rw [decide_eq_false_iff_not]; omega
theorem grownB_refl (b : Nat) (w : World) : w.grownBy w (some b) := ⟨rfl, rfl, rfl, Nat.le_refl _, fun _ _ _ => rfl⟩
theorem grownB_set {b : Nat} {w w' : World} (h : w.grownBy w' (some b)) (i : Nat) (v : Value) : w.grownBy (w'.setCell ⟨b, i, none⟩ v) (some b) :=
  ⟨h.os, h.tape, h.output, by simpa [World.setCell] using h.size, fun k hk hne => by rw [Below.heap_setCell w' ⟨b, i, none⟩ v k (fun e => hne (by rw [e]))]; exact h.block k hk hne⟩
theorem grownB_drewN {b : Nat} {w w' : World} (h : w.grownBy w' (some b)) (k : Nat) : w.grownBy (w'.drewN k) (some b) := ⟨h.os, h.tape, h.output, h.size, h.block⟩
theorem grownB_drw {b : Nat} {w w' : World} (h : w.grownBy w' (some b)) : w.grownBy w'.drew (some b) := ⟨h.os, h.tape, h.output, h.size, h.block⟩
set_option maxHeartbeats 1000000 in
theorem rev_any (b a m c n : Nat) (f : Nat → Int) (w : World) (hm : a + m ≤ n) (hn : n ≤ 1000) (h : BYt w b n f) :
    Calls Tryd.prog 74 #[.slice (some ⟨b, a, none⟩) m c] w fun e w' => e = .returned (.tuple #[]) ∧ BYt w' b n (fun j => if a ≤ j ∧ j < a + m then f (a + (a + m - 1) - j) else f j) ∧ w.grownBy w' (some b) := by
  have H0 := Lib.hid h
  have HR : Hid (∀ i : Nat, m ≤ i + i + 1 → i + i ≤ m → ∀ j, rvp f a (a + m - 1) i j = if a ≤ j ∧ j < a + m then f (a + (a + m - 1) - j) else f j) := fun i h1 h2 j => by
    by_cases hm0 : m = 0
    · subst hm0
      have : i = 0 := by omega
      subst this
      rw [rvp_0, if_neg (by omega)]
    · unfold rvp
      by_cases d : a ≤ j ∧ j < a + m
      · rw [if_pos d]
        by_cases e : (a ≤ j ∧ j < a + i) ∨ (a + m - 1 < j + i ∧ j ≤ a + m - 1)
        · rw [if_pos e]
        · rw [if_neg e]; congr 1; omega
      · rw [if_neg d, if_neg (by omega)]
  clear h
  go_enter Tryd.func74, Tryd.ntmps74
  go_wp2
  go_loopw [2, 3] (fun iv jv wr => ∃ (i : Nat) (j : Int), iv = .int .i64 i ∧ jv = .int .i64 j ∧ Hid (j = (m : Int) - 1 - (i : Int)) ∧ -1 ≤ j ∧ j ≤ 1000 ∧ i + i ≤ m ∧ i ≤ 1000 ∧ Hid (BYt wr b n (rvp f a (a + m - 1) i)) ∧ Hid (w.grownBy wr (some b))) (fun iv _ _ => m - (intOf iv).toNat)
  case atStart => exact ⟨0, (m : Int) - 1, rfl, rfl, by show _ = _; omega, by omega, by omega, by omega, by omega, H0.out.same (fun j _ => (rvp_0 f a _ j).symm), grownB_refl b w⟩
  case round =>
    obtain ⟨i, j, rfl, rfl, HJ, hj0, hj1, him, hi1, HB, HG⟩ := hrel
    obtain ⟨wo, rfl⟩ : ∃ wo : World, wo = wr := ⟨_, rfl⟩
    by_cases hlt : (i : Int) < j
    · obtain ⟨k, hk⟩ : ∃ k : Nat, j = (k : Int) := ⟨j.toNat, by omega⟩
      have hik : i + k + 1 = m := by have := HJ.out; omega
      subst hk
      have hik2 : i < k := by omega
      have hkm : k < m := by omega
      have him2 : i < m := by omega
      have c1 := HB.out.cell (a + i) (by omega)
      have c2 := HB.out.cell (a + k) (by omega)
      have z1 := HB.out.fz (a + i) (by omega)
      have z2 := HB.out.fz (a + k) (by omega)
      have HB2 : Hid (BYt ((wo.setCell ⟨b, a + i, none⟩ (.int .u8 (rvp f a (a + m - 1) i (a + k)))).setCell ⟨b, a + k, none⟩ (.int .u8 (rvp f a (a + m - 1) i (a + i)))) b n (rvp f a (a + m - 1) (i + 1))) := by
        refine BYt.put (BYt.put HB.out (a + i) _ (by omega) (fun j _ => rfl)) (a + k) _ (by omega) (fun j _ => ?_)
        rw [rvp_up (by omega), show a + m - 1 - i = a + k by omega]
      go_wp2
      go_region_with (fail)
      all_goals go_wp2
      all_goals go_roundw
      case rel => exact ⟨i + 1, (k : Int) - 1, rfl, rfl, by have := HJ.out; show _ = _; omega, by omega, by omega, by omega, by omega, HB2.out.drw, grownB_drw (grownB_set (grownB_set HG.out _ _) _ _)⟩
      case measure => simp [intOf]; omega
      case rel => exact ⟨i + 1, (k : Int) - 1, rfl, rfl, by have := HJ.out; show _ = _; omega, by omega, by omega, by omega, by omega, HB2.out.drw, grownB_drw (grownB_set (grownB_set HG.out _ _) _ _)⟩
      case measure => simp [intOf]; omega
    · have HE := Lib.hid (HR.out i (by have := HJ.out; omega) him)
      go_wp2
      go_end0
      exact ⟨rfl, HB.out.same (fun j _ => HE.out j), HG.out⟩
/-- The two that are exchanged, the tail turned. -/
theorem nxo_rev {f : Nat → Int} {n k o j : Nat} (hk : k + 1 < n) (hj : j < n) : nxo f n k o j = if k + 1 ≤ j ∧ j < k + 1 + (n - (k + 1)) then xch f k o (k + 1 + (k + 1 + (n - (k + 1)) - 1) - j) else xch f k o j := by
  unfold nxo
  by_cases h : j ≤ k
  · rw [if_pos h, if_neg (by omega)]
  · rw [if_neg h, if_pos hj, if_pos (by omega)]; congr 1; omega
/-- The bytes of a row as a text. -/
def byL (n : Nat) (g : Nat → Int) : List UInt8 := (List.range n).map fun j => UInt8.ofNat (g j).toNat
theorem byL_len (n : Nat) (g : Nat → Int) : (byL n g).length = n := by simp [byL]
theorem byL_get {n : Nat} {g : Nat → Int} {j : Nat} (hj : j < n) (h0 : 0 ≤ g j) (h1 : g j ≤ 255) : (((byL n g).getD j 0).toNat : Int) = g j := by
  have e : (byL n g).getD j 0 = UInt8.ofNat (g j).toNat := by
    simp [byL, List.getD_eq_getElem?_getD, hj]
  rw [e]; simp; omega
theorem conv_back (W : World) (b n c : Nat) (g : Nat → Int) (h : BYt W b n g) (hg : ∀ j, j < n → 0 ≤ g j ∧ g j ≤ 255) :
    (convert 49 9 (.slice (some ⟨b, 0, none⟩) n c)).run Tryd.prog W = .ok (.string ⟨(byL n g).toArray⟩) W := by
  have hl := byL_len n g
  have := run_convert_bytes_back (P := Tryd.prog) W 49 9 5 ⟨b, 0, none⟩ c (byL n g) Tryd.underlying49 Tryd.underlying5 Tryd.underlying9 (by
    intro j hj
    rw [hl] at hj
    have h1 := h.cell j hj
    have e : (⟨b, 0, none⟩ : Addr).add j = ⟨b, j, none⟩ := by simp [Addr.add]; intro h; exact h.symm
    rw [e, h1]
    have h2 := byL_get (g := g) hj (hg j hj).1 (hg j hj).2
    rw [List.getD_eq_getElem?_getD, List.getElem?_eq_getElem (by rw [hl]; exact hj)] at h2
    simp only [Option.getD_some] at h2
    rw [h2])
  rwa [hl] at this
end Go.Proofs.YtghjpanabphbpaaDoor
