/-
  Clues are looked at behind a recovered door.
-/
import Derived.Test.YtkdnplcaghnfhaaPzBnd
import Derived.Test.YtkdnplcaghnfhaaPzMath2
import Derived.Defers
import Derived.Recover
import Derived.Laws.Pointers
namespace Go.Proofs.Ytkdnplcaghnfhaa
open Go.RowKit
set_option maxRecDepth 100000

theorem ta_clue (W : World) (v : Value) : (Instr.typeAssert (.iface 43 v) 20 43 true).run Try.prog W = .ok (.tuple #[v, .bool true]) W := by kernel_rfl
theorem ta_nil (W : World) : (Instr.typeAssert .nilIface 20 43 true).run Try.prog W = .ok (.tuple #[.agg #[.int .i64 0, .int .i64 0, .int .i64 0], .bool false]) W := by kernel_rfl
attribute [local go_sem ↓] ta_clue ta_nil
set_option maxHeartbeats 1000000 in
theorem catch_thrown (p : Addr) (x : Bool) (k a b : Int) (older : List PanicEntry) (w : World) (hc : w.cell? p = some (.bool x)) (hz : w.frozen? p = false) (hp : p.block < w.heap.size) :
    CallsD Try.prog 38 #[.pointer (some p)] (.panicking ({ v := .iface 43 (.agg #[.int .i64 k, .int .i64 a, .int .i64 b]), recovered := false } :: older)) w fun e u' w' =>
      e = .returned (.tuple #[]) ∧ u' = .panicking ({ v := .iface 43 (.agg #[.int .i64 k, .int .i64 a, .int .i64 b]), recovered := true } :: older) ∧ ∃ o, w' = (w.alloc o).setCell p (.bool false) := by
  have hc2 : ∀ o, (w.alloc o).cell? p = some (.bool x) := fun o => (((Below.refl w.heap.size w).alloc (Nat.le_refl _) o).cell hp).trans hc
  have hz2 : ∀ o, (w.alloc o).frozen? p = false := fun o => (((Below.refl w.heap.size w).alloc (Nat.le_refl _) o).frozen hp).trans hz
  refine callsD_of_wpS Try.func38 rfl fun c₀ cs hu => ?_
  apply wpS_seq
  apply wpS_region
  simp [wpOpsS, go_sem, recoverD, hu, Try.ntmps38, Exit.thenS]
  apply wpS_region
  simp [wpOpsS, go_sem, hc2, hz2, bodyPostS, results, Try.results38]
  exact ⟨_, rfl⟩
set_option maxHeartbeats 1000000 in
theorem catch_none (p : Addr) (x : Bool) (w : World) (hc : w.cell? p = some (.bool x)) (hz : w.frozen? p = false) (hp : p.block < w.heap.size) :
    CallsD Try.prog 38 #[.pointer (some p)] .returning w fun e u' w' =>
      e = .returned (.tuple #[]) ∧ u' = .returning ∧ ∃ o, w' = (w.alloc o).setCell p (.bool true) := by
  have hc2 : ∀ o, (w.alloc o).cell? p = some (.bool x) := fun o => (((Below.refl w.heap.size w).alloc (Nat.le_refl _) o).cell hp).trans hc
  have hz2 : ∀ o, (w.alloc o).frozen? p = false := fun o => (((Below.refl w.heap.size w).alloc (Nat.le_refl _) o).frozen hp).trans hz
  refine callsD_of_wpS Try.func38 rfl fun c₀ cs hu => ?_
  apply wpS_seq
  apply wpS_region
  simp [wpOpsS, go_sem, recoverD, hu, Try.ntmps38, Exit.thenS]
  apply wpS_region
  simp [wpOpsS, go_sem, hc2, hz2, bodyPostS, results, Try.results38]
  cases c₀
  simp only at hu
  subst hu
  first | exact ⟨_, rfl, rfl, _, rfl⟩ | exact ⟨_, ⟨rfl, rfl⟩, _, rfl⟩ | exact ⟨_, rfl, _, rfl⟩
theorem set_same {w : World} {b i : Nat} {x v : Value} (h : w.cell? ⟨b, i, none⟩ = some x) : (w.setCell ⟨b, i, none⟩ v).cell? ⟨b, i, none⟩ = some v := World.cell?_setCell_same _ _ _ h
theorem all_no {cs : List Cl} {k : Nat} (hk : k < cs.length) (h : ¬ clP (cs.getD k c0)) : cs.all clB = false := by
  cases e : cs.all clB with
  | false => rfl
  | true =>
    rw [List.all_eq_true] at e
    exact absurd ((clB_iff _).1 (e _ (mem_getD cs k c0 hk))) h
set_option maxHeartbeats 2000000 in
theorem areClues_any (cs : List Cl) (v : Value) (w : World) (hn : cs.length ≤ 2000000) (h : RdC cs v w) :
    Calls Try.prog 35 #[v] w fun e w' => e = .returned (.bool (cs.all clB)) ∧ Below w.heap.size w w' := by
  obtain ⟨a, cap, rfl, hcp, hc⟩ := h
  have HC := Lib.hid hc
  have hmf : ∀ (fn : Fn) (first cap : Array Value) (w : World), (Instr.makeFunc fn first cap).run Try.prog w = .ok (.func fn first cap) w := fun _ _ _ _ => rfl
  obtain ⟨n, hnn⟩ : ∃ n, n = cs.length := ⟨_, rfl⟩
  have HN := Lib.hid hnn
  rw [← hnn] at hn
  rw [← hnn]
  clear hc hnn hcp
  have HB0 := Lib.hid (Blk.new w #[.bool false] 4)
  have HBB : Below w.heap.size w (w.alloc (.cells #[.bool false] 4)) := (Below.refl _ _).alloc (Nat.le_refl _) _
  go_enter_defers Try.func35, Try.ntmps35
  go_wp2
  go_loopw [8] (fun i wr => ∃ k : Nat, k ≤ n ∧ i = .int .i64 k ∧ Hid (∀ j, j < k → clP (cs.getD j c0)) ∧ Hid (Blk wr w.heap.size #[.bool false] 4) ∧ Below w.heap.size w wr) (fun i _ => n - (intOf i).toNat)
  case atStart => exact ⟨0, Nat.zero_le _, rfl, fun j hj => by omega, HB0, HBB⟩
  case round =>
    clear HB0 HBB
    obtain ⟨k, hk, rfl, HI, HB, hbl⟩ := hrel
    obtain ⟨wo, rfl⟩ : ∃ wo : World, wo = wr := ⟨_, rfl⟩
    have hsz := hbl.size
    have hlt0 := HB.out.lt
    by_cases hlt : k < n
    · obtain ⟨g, o, rfl, hg, d0, d1, d2⟩ := HC.out k (by rw [← HN.out]; exact hlt)
      have e0 := (hbl.cell (p := ⟨g, o + k * 3, none⟩) hg).trans d0
      have e1 := (hbl.cell (p := ⟨g, o + k * 3 + 1, none⟩) hg).trans d1
      have e2 := (hbl.cell (p := ⟨g, o + k * 3 + 2, none⟩) hg).trans d2
      clear d0 d1 d2
      by_cases hcl : clP (cs.getD k c0)
      · have HI2 : Hid (∀ j, j < k + 1 → clP (cs.getD j c0)) := by
          intro j hj
          by_cases e : j = k
          · subst e; exact hcl
          · exact HI.out j (by omega)
        have HCL := Lib.hid hcl
        obtain ⟨c, hcc⟩ : ∃ c, c = cs.getD k c0 := ⟨_, rfl⟩
        rw [← hcc] at e0 e1 e2 HCL
        clear hcl hcc
        have HBK : Hid (∀ o, Blk (wo.alloc o) w.heap.size #[.bool false] 4) := fun o => HB.out.alloc o
        go_wp2_with (go_at_call 39; (with_reducible refine (checkClue_yes c _ HCL.out).mono ?_); rintro e w1 ⟨rfl, b1⟩; have B1 := chain (w := wo) (by go_grown) b1)
        go_roundw
        case rel => exact ⟨k + 1, by omega, by go_num, HI2, HB.out.keep B1, hbl.trans (B1.mono hsz)⟩
        case measure => simp [intOf]; omega
      · have HNO := Lib.hid (all_no (by rw [← HN.out]; exact hlt) hcl)
        have HCL := Lib.hid hcl
        obtain ⟨c, hcc⟩ : ∃ c, c = cs.getD k c0 := ⟨_, rfl⟩
        rw [← hcc] at e0 e1 e2 HCL
        clear hcl hcc
        go_wp2_with (go_at_call 39; (with_reducible refine (checkClue_no c _ HCL.out).mono ?_); rintro e w1 ⟨rfl, b1⟩; have B1 := chain (w := wo) (by go_grown) b1)
        have HB1 := HB.out.keep B1
        refine leaves_cons (f := 38) (args := #[.pointer (some ⟨w.heap.size, 0, none⟩)]) (by simp) (by simp [go_sem]) ?_
        refine (catch_thrown ⟨w.heap.size, 0, none⟩ false c.k c.a c.b [] w1 ?_ ?_ ?_).mono ?_
        · rw [HB1.cell]; rfl
        · rw [HB1.frozen]
        · exact HB1.lt
        rintro e u' w'' ⟨rfl, rfl, o1, rfl⟩
        have B2 : Below w.heap.size w w1 := hbl.trans (B1.mono hsz)
        have e9 : ((w1.alloc o1).setCell ⟨w.heap.size, 0, none⟩ (.bool false)).cell? ⟨w.heap.size, 0, none⟩ = some (.bool false) := set_same (by rw [(HB1.alloc o1).cell]; rfl)
        simp [Leaves, settle, results, Try.results35, go_sem]
        rw [e9]
        exact ⟨_, rfl, by rw [HNO.out], (B2.alloc (by have := B2.size; omega) _).setCell (Nat.le_refl _) _⟩
    · have HYES : Hid (cs.all clB = true) := by
        show _ = _
        rw [List.all_eq_true]
        intro c hc
        obtain ⟨j, hj, rfl⟩ := List.mem_iff_getElem.1 hc
        have := HI.out j (by have := HN.out; omega)
        rw [List.getD_eq_getElem?_getD, List.getElem?_eq_getElem hj] at this
        exact (clB_iff _).2 this
      have f0 : wo.cell? ⟨w.heap.size, 0, none⟩ = some (.bool false) := by rw [HB.out.cell]; rfl
      have f1 : wo.frozen? ⟨w.heap.size, 0, none⟩ = false := HB.out.frozen 0
      have f2 : w.heap.size < wo.heap.size := HB.out.lt
      go_wp2
      refine leaves_cons (f := 38) (args := #[.pointer (some ⟨w.heap.size, 0, none⟩)]) (by simp) (by simp [go_sem]) ?_
      refine (catch_none ⟨w.heap.size, 0, none⟩ true _ ?_ ?_ ?_).mono ?_
      · simp [go_sem, f0]
      · simp [go_sem, f1]
      · simp [World.setCell]; exact f2
      rintro e u' w'' ⟨rfl, rfl, o1, rfl⟩
      have B3 : Below w.heap.size w ((((wo.setCell ⟨w.heap.size, 0, none⟩ (.bool true))).alloc o1).setCell ⟨w.heap.size, 0, none⟩ (.bool true)) := ((hbl.setCell (Nat.le_refl _) _).alloc (by simp [World.setCell]; omega) _).setCell (Nat.le_refl _) _
      have f3 : (wo.setCell ⟨w.heap.size, 0, none⟩ (.bool true)).cell? ⟨w.heap.size, 0, none⟩ = some (.bool true) := set_same f0
      have e9 : (((wo.setCell ⟨w.heap.size, 0, none⟩ (.bool true)).alloc o1).setCell ⟨w.heap.size, 0, none⟩ (.bool true)).cell? ⟨w.heap.size, 0, none⟩ = some (.bool true) := set_same (((Below.refl (wo.setCell ⟨w.heap.size, 0, none⟩ (.bool true)).heap.size _).alloc (Nat.le_refl _) o1).cell (by simp [World.setCell]; exact f2) |>.trans f3)
      simp [Leaves, settle, results, Try.results35, go_sem]
      rw [e9]
      exact ⟨_, rfl, by rw [HYES.out], B3⟩
end Go.Proofs.Ytkdnplcaghnfhaa
