/-
  Copies of schemes, and schemes compared.
-/
import Derived.Test.YtaomcimmhlpflaaDoorPlSch
import Derived.Deep.OwnRows
namespace Go.Proofs.YtaomcimmhlpflaaDoor
open Go.RowKit Go.Deep

def part (ts : List (List UInt8)) (k : Nat) : List (List UInt8) := ts.take k ++ List.replicate (ts.length - k) []
theorem part_zero (ts : List (List UInt8)) : part ts 0 = List.replicate ts.length [] := by simp [part]
theorem part_all (ts : List (List UInt8)) : part ts ts.length = ts := by simp [part]
theorem part_len (ts : List (List UInt8)) (k : Nat) (h : k ≤ ts.length) : (part ts k).length = ts.length := by simp [part]; omega
theorem part_succ (ts : List (List UInt8)) (k : Nat) (h : k < ts.length) : (part ts k).set k (ts.getD k []) = part ts (k + 1) := by
  unfold part
  have e1 : (ts.take k).length = k := by simp; omega
  rw [List.set_append_right _ _ (by omega), e1, Nat.sub_self, show ts.length - k = (ts.length - (k + 1)) + 1 by omega, List.replicate_succ, List.set_cons_zero, List.take_succ_eq_append_getElem h, List.append_assoc]
  simp [List.getD, List.getElem?_eq_getElem h]
theorem makeS (w : World) (N : Nat) (h : N ≤ 1048576) : (Instr.makeSlice 22 (.int .i64 (N : Int)) (.int .i64 (N : Int))).run Tryd.prog w = .ok (.slice (some ⟨w.heap.size, 0, none⟩) N N) (w.alloc (.cells (madeCells #[.string ⟨#[]⟩] N) 9)) :=
  run_make_row' (P := Tryd.prog) 22 9 (.string ⟨#[]⟩) 16 Tryd.underlying22 (by kernel_rfl) rfl .i64 .i64 N (by omega) (by omega) w
theorem Strs.made (w : World) (N : Nat) (h : N ≤ 1048576) : Strs w.heap.size (List.replicate N []) (.slice (some ⟨w.heap.size, 0, none⟩) N N) (w.alloc (.cells (madeCells #[.string ⟨#[]⟩] N) 9)) := by
  refine ⟨by simp, .inr ⟨w.heap.size, N, madeCells #[.string ⟨#[]⟩] N, by simp, Nat.le_refl _, (MapKept.heap_alloc w _).1, by simp, by unfold maxLen; omega, ?_, ?_⟩⟩
  · rw [size_madeCells]; simp
  · have e : (madeCells #[.string ⟨#[]⟩] N).toList = List.replicate N (.string ⟨#[]⟩) := by
      apply List.ext_getElem
      · simp [size_madeCells]
      · intro i h1 h2
        simp [madeCells, Nat.mod_one]
    rw [e]; simp [strV]
set_option maxHeartbeats 1600000 in
theorem toS_any (ts : List (List UInt8)) (v : Value) (w : World) (hn : ts.length ≤ 1048576) (h : Rd ts v w) :
    Calls Tryd.prog 37 #[v] w fun e w' => e = .returned (.slice (some ⟨w.heap.size, 0, none⟩) ts.length ts.length) ∧ Strs w.heap.size ts (.slice (some ⟨w.heap.size, 0, none⟩) ts.length ts.length) w' ∧ Below w.heap.size w w' := by
  obtain ⟨a, cap, rfl, hc⟩ := h
  have HC := Lib.hid hc
  obtain ⟨n, hnn⟩ : ∃ n, n = ts.length := ⟨_, rfl⟩
  have HN := Lib.hid hnn
  rw [← hnn] at hn
  rw [← hnn]
  clear hc hnn
  have hmk := fun w => makeS w n hn
  obtain ⟨g, hg⟩ : ∃ g, g = w.heap.size := ⟨_, rfl⟩
  have HG := Lib.hid hg
  have HS : Hid (Strs g (part ts 0) (.slice (some ⟨g, 0, none⟩) n n) (w.alloc (.cells (madeCells #[.string ⟨#[]⟩] n) 9))) := by
    show Strs _ _ _ _
    rw [part_zero, ← HN.out, hg]; exact Strs.made w n hn
  go_enter Tryd.func37, Tryd.ntmps37
  go_wp2
  rw [← hg]
  clear hmk hg
  go_loopw [4] (fun i wr => ∃ k : Nat, k ≤ n ∧ i = .int .i64 k ∧ Hid (Strs g (part ts k) (.slice (some ⟨g, 0, none⟩) n n) wr) ∧ Below w.heap.size w wr ∧ g < wr.heap.size) (fun i _ => n - (intOf i).toNat)
  case atStart => exact ⟨0, Nat.zero_le _, rfl, HS, (Below.refl _ _).alloc (Nat.le_refl _) _, by have := HG.out; simp; omega⟩
  case round =>
    obtain ⟨k, hk, rfl, hI, hb, hgs⟩ := hrel
    by_cases hlt : k < n
    · have hlt2 : k < ts.length := by rw [← HN.out]; exact hlt
      obtain ⟨g0, o, rfl, hg0, hcell⟩ := HC.out k hlt2
      have hcell2 := (hb.cell (p := ⟨g0, o + k, none⟩) hg0).trans hcell
      have hlen : (part ts k).length = n := by rw [part_len _ _ (by omega), ← HN.out]
      have hff : wr.frozen? ⟨g, k, none⟩ = false := by
        have h := hI.out; unfold Strs at h; rw [hlen] at h; exact h.frozenAt k
      have hcc : wr.cell? ⟨g, k, none⟩ = some (strV ((part ts k).getD k [])) := by
        have h := hI.out; unfold Strs at h; rw [hlen] at h; rw [h.cellAt k (by omega)]; simp [List.getElem?_eq_getElem (show k < (part ts k).length by rw [hlen]; exact hlt)]
      have HS2 := Lib.hid (Strs.store hlen hI.out k (ts.getD k []))
      have HE := Lib.hid (part_succ ts k hlt2)
      have HBL : Hid (w.heap.size ≤ g) := by show _ ≤ _; rw [HG.out]; exact Nat.le_refl _
      obtain ⟨x, hx⟩ : ∃ x : Value, x = strV (ts.getD k []) := ⟨_, rfl⟩
      obtain ⟨y, hy⟩ : ∃ y : Value, y = strV ((part ts k).getD k []) := ⟨_, rfl⟩
      obtain ⟨bb, hbb⟩ : ∃ bb : ByteArray, bb = ⟨(ts.getD k []).toArray⟩ := ⟨_, rfl⟩
      have hx2 : x = .string bb := by rw [hx, hbb]; rfl
      rw [← hx] at hcell2 HS2
      have HX : Hid (x = .string bb) := hx2
      rw [← hy] at hcc
      clear hcell hlen hy hx hbb
      subst hx2
      go_wp2
      go_roundw
      case rel => exact ⟨k + 1, by omega, by go_num, by show Strs _ _ _ _; rw [← HE.out]; have h := HS2.out; rw [HX.out] at h; exact h, hb.setCell HBL.out _, by simp [World.setCell]; omega⟩
      case measure => simp [intOf]; omega
    · have HK : Hid (part ts k = ts) := by show _ = _; rw [show k = ts.length by have := HN.out; omega, part_all]
      go_wp2
      go_ret
      refine ⟨by rw [HG.out]; rfl, ?_, hb⟩
      rw [← HG.out]
      have h := hI.out
      rw [HK.out] at h
      exact h
theorem blk_cells {w : World} {b : Nat} {x y z : Value} {T : TypeId} (h : w.heap[b]? = some (.cells #[x, y, z] T (0, 0))) : w.cell? ⟨b, 0, none⟩ = some x ∧ w.cell? ⟨b, 1, none⟩ = some y ∧ w.cell? ⟨b, 2, none⟩ = some z ∧ (∀ i, w.frozen? ⟨b, i, none⟩ = false) ∧ w.shape? b = some (T, 3) := by
  refine ⟨by rw [Lib.cell_of_heap h]; rfl, by rw [Lib.cell_of_heap h]; rfl, by rw [Lib.cell_of_heap h]; rfl, fun i => Lib.frozen_of_heap h i, ?_⟩
  unfold World.shape?; rw [h]; rfl
theorem Strs.other {B g n cap : Nat} {ts : List (List UInt8)} {w : World} (h : Strs B ts (.slice (some ⟨g, 0, none⟩) n cap) w) {a : Addr} (ha : a.block ≠ g) (x : Value) : Strs B ts (.slice (some ⟨g, 0, none⟩) n cap) (w.setCell a x) := by
  refine ⟨h.1, ?_⟩
  rcases h.2 with h0 | ⟨g', cap', cur, hv, hb, hg, r⟩
  · exact .inl h0
  · simp only [Value.slice.injEq, Option.some.injEq, Addr.mk.injEq] at hv
    obtain ⟨⟨rfl, _⟩, rfl, rfl⟩ := hv
    refine .inr ⟨g, cap, cur, rfl, hb, ?_, r⟩
    rw [Below.heap_setCell _ _ _ _ (fun e => ha e.symm)]; exact hg
/-- A block that was laid keeps its cells. -/
theorem box_kept {w w1 : World} {x y z : Value} {T : TypeId} (b1 : Below (w.alloc (.cells #[x, y, z] T)).heap.size (w.alloc (.cells #[x, y, z] T)) w1) : w1.cell? ⟨w.heap.size, 0, none⟩ = some x ∧ w1.cell? ⟨w.heap.size, 1, none⟩ = some y ∧ w1.cell? ⟨w.heap.size, 2, none⟩ = some z ∧ w.heap.size < w1.heap.size := by
  have hz := b1.size
  have z1 : (w.alloc (.cells #[x, y, z] T)).heap.size = w.heap.size + 1 := World.size_alloc _ _
  have h := blk_cells (w := w1) (b := w.heap.size) (x := x) (y := y) (z := z) (T := T) (by rw [b1.block _ (by omega)]; exact (MapKept.heap_alloc _ _).1)
  exact ⟨h.1, h.2.1, h.2.2.1, by omega⟩
theorem keep3 {w w1 : World} {b : Nat} {x y z : Value} (h : b < w.heap.size) (c0 : w.cell? ⟨b, 0, none⟩ = some x) (c1 : w.cell? ⟨b, 1, none⟩ = some y) (c2 : w.cell? ⟨b, 2, none⟩ = some z) (k : Below w.heap.size w w1) : w1.cell? ⟨b, 0, none⟩ = some x ∧ w1.cell? ⟨b, 1, none⟩ = some y ∧ w1.cell? ⟨b, 2, none⟩ = some z ∧ b < w1.heap.size :=
  ⟨(k.cell (p := ⟨b, 0, none⟩) h).trans c0, (k.cell (p := ⟨b, 1, none⟩) h).trans c1, (k.cell (p := ⟨b, 2, none⟩) h).trans c2, by have := k.size; omega⟩
theorem heap_two {w w1 : World} {o1 o2 o3 : Obj} (b1 : Below (((w.alloc o1).alloc o2).alloc o3).heap.size (((w.alloc o1).alloc o2).alloc o3) w1) : w1.heap[w.heap.size + 1]? = some o2 ∧ w1.heap[w.heap.size + 1 + 1]? = some o3 := by
  have z1 : (w.alloc o1).heap.size = w.heap.size + 1 := World.size_alloc _ _
  have z2 : ((w.alloc o1).alloc o2).heap.size = w.heap.size + 1 + 1 := by rw [World.size_alloc, z1]
  have z3 : (((w.alloc o1).alloc o2).alloc o3).heap.size = w.heap.size + 1 + 1 + 1 := by rw [World.size_alloc, z2]
  refine ⟨?_, ?_⟩
  · rw [b1.block _ (by omega), Lib.alloc_old _ _ _ (by omega), ← z1]
    exact (MapKept.heap_alloc _ _).1
  · rw [b1.block _ (by omega), ← z2]
    exact (MapKept.heap_alloc _ _).1
theorem toScheme_any (P B : ByteArray) (ts : List (List UInt8)) (v : Value) (w : World) (hn : ts.length ≤ 1048576) (h : Rd ts v w) :
    Calls Tryd.prog 13 #[.agg #[.string P, .string B, v]] w fun e w' => (∃ g, e = .returned (.agg #[.string P, .string B, .slice (some ⟨g, 0, none⟩) ts.length ts.length]) ∧ Strs w.heap.size ts (.slice (some ⟨g, 0, none⟩) ts.length ts.length) w') ∧ Below w.heap.size w w' := by
  have HV := Lib.hid h
  clear h
  go_enter Tryd.func13, Tryd.ntmps13
  go_wp2_with (go_at_call 37; go_must ((with_reducible refine (toS_any ts v _ hn (HV.out.below (by go_grown))).mono ?_); rintro e w1 ⟨rfl, hu, b1⟩; have bb : Below w.heap.size w w1 := chain (w := w) (by go_grown) b1; have c1 := blk_cells (heap_two b1).1; have c2 := blk_cells (heap_two b1).2; obtain ⟨c10, c11, c12, f1, s1⟩ := c1; obtain ⟨c20, c21, c22, f2, s2⟩ := c2))
  obtain ⟨h1, h2⟩ := heap_two b1
  refine bodyPost_ret (v := .agg #[.string P, .string B, .slice (some ⟨w.heap.size + 1 + 1 + 1, 0, none⟩) ts.length ts.length]) (results_cell_row rfl _ _ (w.heap.size + 1) 26 #[.string P, .string B, .slice (some ⟨w.heap.size + 1 + 1 + 1, 0, none⟩) ts.length ts.length] (0, 0) _ rfl ?_ Tryd.underlying26 rfl (by kernel_rfl)) rfl ?_
  · simp [World.setCell, Array.getElem?_modify, h1]
  · have hz : ∀ a : Addr, w.heap.size ≤ a.block → ∀ (w2 : World) v, Below w.heap.size w w2 → Below w.heap.size w (w2.setCell a v) := fun a ha w2 v h => h.setCell ha v
    refine ⟨⟨_, rfl, ?_⟩, ?_⟩
    · have e : (((w.alloc (.cells #[.string P, .string B, v] 24)).alloc (.cells #[.string { data := #[] }, .string { data := #[] }, .slice none 0 0] 26)).alloc (.cells #[.string P, .string B, .slice none 0 0] 26)).heap.size = w.heap.size + 1 + 1 + 1 := by simp [World.size_alloc]
      rw [e] at hu
      have hk : ∀ (w2 : World) (a : Addr) (x : Value), a.block ≠ w.heap.size + 1 + 1 + 1 → Strs (w.heap.size + 1 + 1 + 1) ts (.slice (some ⟨w.heap.size + 1 + 1 + 1, 0, none⟩) ts.length ts.length) w2 → Strs (w.heap.size + 1 + 1 + 1) ts (.slice (some ⟨w.heap.size + 1 + 1 + 1, 0, none⟩) ts.length ts.length) (w2.setCell a x) := fun w2 a x ha h => h.other ha x
      refine Strs.mono ?_ (show w.heap.size ≤ w.heap.size + 1 + 1 + 1 by omega)
      refine hk _ _ _ (by simp) (hk _ _ _ (by simp) (hk _ _ _ (by simp) (hk _ _ _ (by simp) hu)))
    · exact hz _ (by simp only []; omega) _ _ (hz _ (by simp only []; omega) _ _ (hz _ (by simp only []; omega) _ _ (hz _ (by simp only []; omega) _ _ bb)))
end Go.Proofs.YtaomcimmhlpflaaDoor
