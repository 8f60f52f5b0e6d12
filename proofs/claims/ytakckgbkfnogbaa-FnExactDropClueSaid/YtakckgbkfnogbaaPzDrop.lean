/-
  A clue dropped, a clue added: both sides.
-/
import Derived.Test.YtakckgbkfnogbaaPzWo
import Derived.Test.YtakckgbkfnogbaaPzEq
namespace Go.Proofs.Ytakckgbkfnogbaa
open Go.RowKit Go.Deep
set_option maxRecDepth 100000

theorem results_row_tmp {P : Program} {fn : Func} {p u : Tmp} {ty : TypeId} (h : fn.results = #[.cell p ty, .tmp u]) (tmps : Array Value) (w : World) (g : Nat) (t : TypeId) (cs : Array Value) (fr : Nat × Nat) (d : TypeDesc)
    (hp : tmps.getD p undef = .pointer (some ⟨g, 0, none⟩)) (hg : w.heap[g]? = some (.cells cs t fr)) (hu : P.underlying ty = some d) (hd : (match d with | .struct _ | .array _ _ => true | _ => false) = true) (hi : (P.info? ty).map (·.size) = some cs.size) :
    (results fn tmps).run P w = .ok (.tuple #[.agg cs, tmps.getD u undef]) w := by
  rw [results_cell_tmp h, hp]
  simp [asAddr, Result.andThen, run_loadVar_row w g t ty cs fr d hg hu hd hi]
theorem heap_pair {w w1 : World} {o1 o2 : Obj} (b1 : Below ((w.alloc o1).alloc o2).heap.size ((w.alloc o1).alloc o2) w1) : w1.heap[w.heap.size]? = some o1 ∧ w1.heap[w.heap.size + 1]? = some o2 := by
  have z1 : (w.alloc o1).heap.size = w.heap.size + 1 := World.size_alloc _ _
  have z2 : ((w.alloc o1).alloc o2).heap.size = w.heap.size + 1 + 1 := by rw [World.size_alloc, z1]
  refine ⟨?_, ?_⟩
  · rw [b1.block _ (by omega), Lib.alloc_old _ _ _ (by omega)]
    exact (MapKept.heap_alloc _ _).1
  · rw [b1.block _ (by omega), ← z1]
    exact (MapKept.heap_alloc _ _).1
theorem Clu.val {B : Nat} {cs : List Cl} {v : Value} {w : World} (h : Clu B cs v w) : ∃ a cap, v = .slice a cs.length cap := by
  rcases h.form with ⟨h1, h2⟩ | ⟨g, cap, hv, _⟩
  · exact ⟨none, 0, by rw [h1, h2]; rfl⟩
  · exact ⟨_, cap, hv⟩
theorem Clu.low {B : Nat} {cs : List Cl} {v : Value} {w : World} {b : Nat} (h : Clu B cs v w) (hb : b < B) (i : Nat) (x : Value) : Clu B cs v (w.setCell ⟨b, i, none⟩ x) := by
  refine World.ownsRow.kept h (row := some b) ⟨rfl, rfl, rfl, by simp [World.setCell], fun k _ hk => heap_setCell_other w ⟨b, i, none⟩ k x (fun e => hk (by simp [e]))⟩ ?_
  cases hv : v.ownBlock with
  | none => exact .inl rfl
  | some k => exact .inr (fun e => by have h1 := (h.own_lt k hv).1; simp only [Option.some.injEq] at e; omega)
def drB (cs : List Cl) (k : Int) : Bool := pzB cs && decide (0 ≤ k ∧ k < cs.length)
def drA (cs : List Cl) (k : Int) : List Cl := if drB cs k then wo cs k.toNat else []
theorem drA_no {cs : List Cl} {k : Int} (h : drB cs k = false) : drA cs k = [] := by unfold drA; rw [if_neg (by rw [h]; simp)]
theorem drA_yes {cs : List Cl} {k : Int} (h : drB cs k = true) : drA cs k = wo cs k.toNat := by unfold drA; rw [if_pos h]
set_option maxHeartbeats 4000000 in
theorem iDrop_any (cs : List Cl) (ad : Addr) (n cap : Nat) (k : Int) (w : World) (hn : cs.length ≤ 1048576) (h : RdC cs (.slice (some ad) n cap) w) :
    Calls Try.prog 16 #[.agg #[.slice (some ad) n cap], .int .i64 k] w fun e w' => (∃ a c, e = .returned (.tuple #[.agg #[.slice a (drA cs k).length c], .bool (drB cs k)]) ∧ Clu w.heap.size (drA cs k) (.slice a (drA cs k).length c) w') ∧ Below w.heap.size w w' := by
  have HV := Lib.hid h
  have HR := Lib.hid (h.below (below2 w (.cells #[.slice (some ad) n cap] 35) (.cells #[.slice none 0 0] 35)))
  have HL := Lib.hid h.len
  clear h
  cases hg : pzB cs with
  | false =>
    have HG := Lib.hid hg
    have hz : drB cs k = false := by unfold drB; rw [hg]; rfl
    have HA := Lib.hid (drA_no hz)
    have HB := Lib.hid hz
    clear hg hz
    go_enter Try.func16, Try.ntmps16
    go_wp2_with (go_at_call 13; (with_reducible refine (isPuzzle_b cs false _ _ hn HR.out HG.out).mono ?_); rintro e w1 ⟨rfl, b1⟩; obtain ⟨p0, p1⟩ := heap_pair b1; obtain ⟨e0, f0, s0⟩ := blk1 p0; obtain ⟨e1, f1, s1⟩ := blk1 p1; have z0 := (Array.getElem?_eq_some_iff.1 p0).1; have z1 := (Array.getElem?_eq_some_iff.1 p1).1; have B1 : Below w.heap.size w w1 := (below2 w _ _).trans (b1.mono (by simp only [World.size_alloc]; omega)))
    · refine bodyPost_ret (results_row_tmp rfl _ _ (w.heap.size + 1) 35 #[.slice none 0 0] (0, 0) _ rfl ?_ Try.underlying35 rfl (by kernel_rfl)) rfl ?_
      · have := heap_setCell_same w1 (w.heap.size + 1) 0 _ _ (.slice none 0 0) p1
        simpa using this
      · refine ⟨⟨none, 0, by rw [HA.out, HB.out]; rfl, by rw [HA.out]; exact Clu.nil _ _⟩, B1.setCell (by simp only; omega) _⟩
  | true =>
    have HG := Lib.hid hg
    have hl6 := pz_len hg
    by_cases hk : 0 ≤ k ∧ k < (cs.length : Int)
    · have hz : drB cs k = true := by unfold drB; rw [hg, decide_eq_true hk]; rfl
      have HA := Lib.hid (drA_yes hz)
      have HB := Lib.hid hz
      obtain ⟨hk0, hk1⟩ := hk
      obtain ⟨j, hj⟩ : ∃ j : Nat, k = (j : Int) := ⟨k.toNat, by omega⟩
      have hjl : j < cs.length := by omega
      have HJ := Lib.hid hj
      have HQ := Lib.hid (fun W (hr : RdC cs (.slice (some ad) n cap) W) => without_any cs ad n cap j k W hj hjl (by omega) hr)
      have hkn : k < (n : Int) := by have := HL.out.1; omega
      clear hg hz hj hk1 hl6
      go_enter Try.func16, Try.ntmps16
      go_wp2_with (first
        | (go_at_call 13; (with_reducible refine (isPuzzle_b cs true _ _ hn HR.out HG.out).mono ?_); rintro e w1 ⟨rfl, b1⟩; obtain ⟨p0, p1⟩ := heap_pair b1; obtain ⟨e0, f0, s0⟩ := blk1 p0; obtain ⟨e1, f1, s1⟩ := blk1 p1; have z0 := (Array.getElem?_eq_some_iff.1 p0).1; have z1 := (Array.getElem?_eq_some_iff.1 p1).1; have B1 : Below w.heap.size w w1 := (below2 w _ _).trans (b1.mono (by simp only [World.size_alloc]; omega)))
        | (go_at_call 29; (refine (HQ.out _ (HV.out.below B1)).mono ?_); rintro e w2 ⟨⟨u, rfl, hu⟩, b2⟩; obtain ⟨a, c, rfl⟩ := hu.val; have B2 := chain B1 b2; have y1 := (b2.block _ z1).trans p1; obtain ⟨e3, f3, s3⟩ := blk1 y1; have z3 := (Array.getElem?_eq_some_iff.1 y1).1))
      refine bodyPost_ret (results_row_tmp rfl _ _ (w.heap.size + 1) 35 #[.slice a (wo cs j).length c] (0, 0) _ rfl ?_ Try.underlying35 rfl (by kernel_rfl)) rfl ?_
      · have := heap_setCell_same w2 (w.heap.size + 1) 0 _ _ (.slice a (wo cs j).length c) y1
        simpa using this
      · have hjt : k.toNat = j := by rw [HJ.out]; simp
        refine ⟨⟨a, c, by rw [HA.out, HB.out, hjt]; rfl, ?_⟩, B2.setCell (by simp only; omega) _⟩
        rw [HA.out, hjt]
        exact (hu.low z1 _ _).mono B1.size
    · have hz : drB cs k = false := by unfold drB; rw [hg, decide_eq_false hk]; rfl
      have HA := Lib.hid (drA_no hz)
      have HB := Lib.hid hz
      have hkk : k < 0 ∨ (0 ≤ k ∧ (n : Int) ≤ k) := by have := HL.out.1; omega
      clear hg hz hk hl6
      rcases hkk with h1 | ⟨h1, h2⟩
      all_goals
        go_enter Try.func16, Try.ntmps16
        go_wp2_with (go_at_call 13; (with_reducible refine (isPuzzle_b cs true _ _ hn HR.out HG.out).mono ?_); rintro e w1 ⟨rfl, b1⟩; obtain ⟨p0, p1⟩ := heap_pair b1; obtain ⟨e0, f0, s0⟩ := blk1 p0; obtain ⟨e1, f1, s1⟩ := blk1 p1; have z0 := (Array.getElem?_eq_some_iff.1 p0).1; have z1 := (Array.getElem?_eq_some_iff.1 p1).1; have B1 : Below w.heap.size w w1 := (below2 w _ _).trans (b1.mono (by simp only [World.size_alloc]; omega)))
        refine bodyPost_ret (results_row_tmp rfl _ _ (w.heap.size + 1) 35 #[.slice none 0 0] (0, 0) _ rfl ?_ Try.underlying35 rfl (by kernel_rfl)) rfl ?_
        · have := heap_setCell_same w1 (w.heap.size + 1) 0 _ _ (.slice none 0 0) p1
          simpa using this
        · refine ⟨⟨none, 0, by rw [HA.out, HB.out]; rfl, by rw [HA.out]; exact Clu.nil _ _⟩, B1.setCell (by simp only; omega) _⟩
set_option maxHeartbeats 4000000 in
theorem sDrop_any (cs : List Cl) (ad : Addr) (n cap : Nat) (k : Int) (w : World) (hn : cs.length ≤ 1048576) (h : RdC cs (.slice (some ad) n cap) w) :
    Calls Try.prog 15 #[.agg #[.slice (some ad) n cap], .int .i64 k] w fun e w' => (∃ a c, e = .returned (.tuple #[.agg #[.slice a (drA cs k).length c], .bool (drB cs k)]) ∧ Clu w.heap.size (drA cs k) (.slice a (drA cs k).length c) w') ∧ Below w.heap.size w w' := by
  have HV := Lib.hid h
  have HR := Lib.hid (h.below (below2 w (.cells #[.slice (some ad) n cap] 35) (.cells #[.slice none 0 0] 35)))
  have HL := Lib.hid h.len
  clear h
  cases hg : pzB cs with
  | false =>
    have HG := Lib.hid hg
    have hz : drB cs k = false := by unfold drB; rw [hg]; rfl
    have HA := Lib.hid (drA_no hz)
    have HB := Lib.hid hz
    clear hg hz
    go_enter Try.func15, Try.ntmps15
    go_wp2_with (go_at_call 24; (with_reducible refine (pzGood_b cs false _ _ hn HR.out HG.out).mono ?_); rintro e w1 ⟨rfl, b1⟩; obtain ⟨p0, p1⟩ := heap_pair b1; obtain ⟨e0, f0, s0⟩ := blk1 p0; obtain ⟨e1, f1, s1⟩ := blk1 p1; have z0 := (Array.getElem?_eq_some_iff.1 p0).1; have z1 := (Array.getElem?_eq_some_iff.1 p1).1; have B1 : Below w.heap.size w w1 := (below2 w _ _).trans (b1.mono (by simp only [World.size_alloc]; omega)))
    · refine bodyPost_ret (results_row_tmp rfl _ _ (w.heap.size + 1) 35 #[.slice none 0 0] (0, 0) _ rfl ?_ Try.underlying35 rfl (by kernel_rfl)) rfl ?_
      · have := heap_setCell_same w1 (w.heap.size + 1) 0 _ _ (.slice none 0 0) p1
        simpa using this
      · refine ⟨⟨none, 0, by rw [HA.out, HB.out]; rfl, by rw [HA.out]; exact Clu.nil _ _⟩, B1.setCell (by simp only; omega) _⟩
  | true =>
    have HG := Lib.hid hg
    have hl6 := pz_len hg
    have hnl := HL.out.1
    have hw1 : IntKind.i64.wrap ((n : Int) - 1) = (n : Int) - 1 := IntWalk.i64_in _ (by omega)
    by_cases hk : 0 ≤ k ∧ k < (cs.length : Int)
    · have hz : drB cs k = true := by unfold drB; rw [hg, decide_eq_true hk]; rfl
      have HA := Lib.hid (drA_yes hz)
      have HB := Lib.hid hz
      have HK : Hid (decide (0 ≤ k ∧ k ≤ (n : Int) - 1) = true) := decide_eq_true (by omega)
      obtain ⟨hk0, hk1⟩ := hk
      obtain ⟨j, hj⟩ : ∃ j : Nat, k = (j : Int) := ⟨k.toNat, by omega⟩
      have hjl : j < cs.length := by omega
      have HJ := Lib.hid hj
      have HQ := Lib.hid (fun W (hr : RdC cs (.slice (some ad) n cap) W) => pzWo_any cs ad n cap j k W hj hjl (by omega) hr)
      have hn6 : n ≤ 6 := by omega
      clear hg hz hj hk1 hl6 hnl
      go_enter Try.func15, Try.ntmps15
      go_wp2_with (first
        | (go_at_call 24; (with_reducible refine (pzGood_b cs true _ _ hn HR.out HG.out).mono ?_); rintro e w1 ⟨rfl, b1⟩; obtain ⟨p0, p1⟩ := heap_pair b1; obtain ⟨e0, f0, s0⟩ := blk1 p0; obtain ⟨e1, f1, s1⟩ := blk1 p1; have z0 := (Array.getElem?_eq_some_iff.1 p0).1; have z1 := (Array.getElem?_eq_some_iff.1 p1).1; have B1 : Below w.heap.size w w1 := (below2 w _ _).trans (b1.mono (by simp only [World.size_alloc]; omega)))
        | (go_at_call 27; (refine (in_b _ _ _ true _ HK.out).mono ?_); rintro e wq ⟨rfl, rfl⟩)
        | (go_at_call 28; (refine (HQ.out _ (HV.out.below B1)).mono ?_); rintro e w2 ⟨⟨u, rfl, hu⟩, b2⟩; obtain ⟨a, c, rfl⟩ := hu.val; have B2 := chain B1 b2; have y1 := (b2.block _ z1).trans p1; obtain ⟨e3, f3, s3⟩ := blk1 y1; have z3 := (Array.getElem?_eq_some_iff.1 y1).1))
      refine bodyPost_ret (results_row_tmp rfl _ _ (w.heap.size + 1) 35 #[.slice a (wo cs j).length c] (0, 0) _ rfl ?_ Try.underlying35 rfl (by kernel_rfl)) rfl ?_
      · have := heap_setCell_same w2 (w.heap.size + 1) 0 _ _ (.slice a (wo cs j).length c) y1
        simpa using this
      · have hjt : k.toNat = j := by rw [HJ.out]; simp
        refine ⟨⟨a, c, by rw [HA.out, HB.out, hjt]; rfl, ?_⟩, B2.setCell (by simp only; omega) _⟩
        rw [HA.out, hjt]
        exact (hu.low z1 _ _).mono B1.size
    · have hz : drB cs k = false := by unfold drB; rw [hg, decide_eq_false hk]; rfl
      have HA := Lib.hid (drA_no hz)
      have HB := Lib.hid hz
      have HK : Hid (decide (0 ≤ k ∧ k ≤ (n : Int) - 1) = false) := decide_eq_false (by omega)
      have hn6 : n ≤ 6 := by omega
      clear hg hz hk hl6 hnl
      go_enter Try.func15, Try.ntmps15
      go_wp2_with (first
        | (go_at_call 24; (with_reducible refine (pzGood_b cs true _ _ hn HR.out HG.out).mono ?_); rintro e w1 ⟨rfl, b1⟩; obtain ⟨p0, p1⟩ := heap_pair b1; obtain ⟨e0, f0, s0⟩ := blk1 p0; obtain ⟨e1, f1, s1⟩ := blk1 p1; have z0 := (Array.getElem?_eq_some_iff.1 p0).1; have z1 := (Array.getElem?_eq_some_iff.1 p1).1; have B1 : Below w.heap.size w w1 := (below2 w _ _).trans (b1.mono (by simp only [World.size_alloc]; omega)))
        | (go_at_call 27; (refine (in_b _ _ _ false _ HK.out).mono ?_); rintro e wq ⟨rfl, rfl⟩))
      refine bodyPost_ret (results_row_tmp rfl _ _ (w.heap.size + 1) 35 #[.slice none 0 0] (0, 0) _ rfl ?_ Try.underlying35 rfl (by kernel_rfl)) rfl ?_
      · have := heap_setCell_same w1 (w.heap.size + 1) 0 _ _ (.slice none 0 0) p1
        simpa using this
      · refine ⟨⟨none, 0, by rw [HA.out, HB.out]; rfl, by rw [HA.out]; exact Clu.nil _ _⟩, B1.setCell (by simp only; omega) _⟩
end Go.Proofs.Ytakckgbkfnogbaa
