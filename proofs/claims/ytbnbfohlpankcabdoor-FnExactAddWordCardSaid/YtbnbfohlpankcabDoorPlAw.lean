/-
  Schemes with one more word: both sides.
-/
import Derived.Test.YtbnbfohlpankcabDoorPlOwn
import Derived.Test.YtbnbfohlpankcabDoorPlWi
import Derived.Laws.ResultCell
import Derived.Deep.RegionHeld3
namespace Go.Proofs.YtbnbfohlpankcabDoor
open Go.RowKit

theorem results_row_tmp {P : Program} {fn : Func} {p u : Tmp} {ty : TypeId} (h : fn.results = #[.cell p ty, .tmp u]) (tmps : Array Value) (w : World) (g : Nat) (t : TypeId) (cs : Array Value) (fr : Nat × Nat) (d : TypeDesc)
    (hp : tmps.getD p undef = .pointer (some ⟨g, 0, none⟩)) (hg : w.heap[g]? = some (.cells cs t fr)) (hu : P.underlying ty = some d) (hd : (match d with | .struct _ | .array _ _ => true | _ => false) = true) (hi : (P.info? ty).map (·.size) = some cs.size) :
    (results fn tmps).run P w = .ok (.tuple #[.agg cs, tmps.getD u undef]) w := by
  rw [results_cell_tmp h, hp]
  simp [asAddr, Result.andThen, run_loadVar_row w g t ty cs fr d hg hu hd hi]
theorem heap_pair {w w1 : World} {o1 o2 : Obj} (b1 : Below ((w.alloc o1).alloc o2).heap.size ((w.alloc o1).alloc o2) w1) : w1.heap[w.heap.size]? = some o1 ∧ w1.heap[w.heap.size + 1]? = some o2 := by
  have z1 : (w.alloc o1).heap.size = w.heap.size + 1 := World.size_alloc _ _
  have z2 : ((w.alloc o1).alloc o2).heap.size = w.heap.size + 1 + 1 := by rw [World.size_alloc, z1]
  refine ⟨?_, ?_⟩
  · rw [b1.block _ (by omega), Lib.alloc_old _ _ _ (by omega)]
    exact (MapKept.heap_alloc _ _).1
  · rw [b1.block _ (by omega), ← z1]
    exact (MapKept.heap_alloc _ _).1
theorem Strs.len {B : Nat} {ts : List (List UInt8)} {v : Value} {w : World} (h : Strs B ts v w) : ∃ a cap, v = .slice a ts.length cap := by
  rcases h.2 with ⟨hv, hn⟩ | ⟨g, cap, cur, hv, _⟩
  · exact ⟨none, 0, by rw [hv, hn]⟩
  · exact ⟨_, cap, hv⟩
theorem Strs.setLow {B : Nat} {ts : List (List UInt8)} {v : Value} {w : World} (h : Strs B ts v w) {a : Addr} (ha : a.block < B) (x : Value) : Strs B ts v (w.setCell a x) := by
  refine ⟨h.1, ?_⟩
  rcases h.2 with h0 | ⟨g', cap', cur, hv, hb, hg, r⟩
  · exact .inl h0
  · refine .inr ⟨g', cap', cur, hv, hb, ?_, r⟩
    rw [Below.heap_setCell _ _ _ _ (by omega)]; exact hg
/-- Whether there is one more word, and the scheme. -/
def awB (P B : ByteArray) (ts : List (List UInt8)) (wd : ByteArray) : Bool := schB P.data.toList B.data.toList ts && (wordB wd.data.toList && !decide (ts.length = 3))
def awP (b : Bool) (P : ByteArray) : ByteArray := if b then P else ⟨#[]⟩
def awT (b : Bool) (ts : List (List UInt8)) : List (List UInt8) := if b then ts else []
theorem ret_sch {a : Option Addr} {n n' cap : Nat} {P P' B B' : ByteArray} {p q : Bool} (h1 : P = P') (h2 : B = B') (h3 : n = n') (h4 : p = q) : Ending.returned (.tuple #[.agg #[.string P, .string B, .slice a n cap], .bool p]) = .returned (.tuple #[.agg #[.string P', .string B', .slice a n' cap], .bool q]) := by rw [h1, h2, h3, h4]
theorem step_append_strsG (w : World) {ops : Array Oper} {o : Oper} {a : Act} {K : Act → World → Prop} {Q : Exit → Act → World → Prop} {E : Prop} (hgd : o.guard = none) (s x : Operand)
    (ho : o.op = .call { callee := .builtin .append, args := #[s, x], argTypes := #[22, 22] })
    (B : Nat) (ts : List (List UInt8)) (v : Value) (hs : a.eval s = v) (hown : Strs B ts v w) (k : Nat) (us : List (List UInt8)) (hx : a.eval x = .slice (some ⟨k, 0, none⟩) us.length us.length) (hc : ∀ j u, us[j]? = some u → w.cell? ⟨k, j, none⟩ = some (strV u))
    (hpos : 0 < us.length) (hlen : ts.length + us.length ≤ 2000000) (hB : B ≤ w.heap.size)
    (h : ∀ g cap w', Strs B (ts ++ us) (.slice (some ⟨g, 0, none⟩) (ts.length + us.length) cap) w' → Below B w w' → K (a.put o.dst (.slice (some ⟨g, 0, none⟩) (ts.length + us.length) cap)) w') :
    if Region.wanted o (yielded ops a.tmps) = true then Oper.wp Tryd.prog o a w K Q else E := by
  obtain ⟨i0, hi, hz0, hz1, hz2⟩ := info_parts (show (Tryd.prog.info? 9).map (fun i => (i.zero, i.size, i.bytes)) = some (some (.string ⟨#[]⟩), 1, 16) by kernel_rfl)
  refine step_append_lies w hgd s x 22 ho B 9 i0 (.string ⟨#[]⟩) 1 16 Tryd.underlying22 hi hz0 hz1 hz2 rfl (by decide) v ts.length (ts.map strV) hs hown ⟨k, 0, none⟩ us.length us.length (us.map strV) hx (by simp) ?_ ?_ hpos ?_ ?_ hB _ rfl ?_
  · intro j u hj
    rw [List.getElem?_map] at hj
    cases e : us[j]? with
    | none => rw [e] at hj; cases hj
    | some z => rw [e] at hj; simp at hj; subst hj; have := hc j z e; cases j <;> simpa [Addr.add] using this
  · intro u hu; simp at hu; obtain ⟨z, _, rfl⟩ := hu; rfl
  · unfold maxLen; omega
  · omega
  · intro g cap w' h1 hg _ _
    refine h g cap w' ?_ ?_
    · unfold Strs; simpa using h1
    · exact (Below.refl B w).grown hg hB (fun q hq => (World.ownsRow.lt hown q hq).1)
theorem below_low {w w2 : World} (h : Below w.heap.size w w2) (i : Nat) (x : Value) (n : Nat) (hn : w.heap.size ≤ n) : Below w.heap.size w (w2.setCell ⟨n, i, none⟩ x) := h.setCell hn x
theorem lies2 {W : World} {ts : List (List UInt8)} {ad : Addr} {b k c : Nat} {x : ByteArray} {t : List UInt8} (h0 : W.cell? ⟨b, 0, none⟩ = some (.slice (some ad) ts.length c)) (h1 : W.cell? ⟨b, 1, none⟩ = some (.slice (some ⟨k, 0, none⟩) 1 1)) (h2 : W.cell? ⟨k, 0, none⟩ = some (.string x)) (hb : b < W.heap.size) (hk : k < W.heap.size) (hx : x = ⟨t.toArray⟩) (hl : Lie ts ad W) : Lies [ts, [t]] b W := by
  subst hx
  refine ⟨hb, fun j hj => ?_⟩
  match j, hj with
  | 0, _ => exact ⟨ad, c, h0, hl⟩
  | 1, _ =>
    refine ⟨⟨k, 0, none⟩, 1, h1, hk, rfl, fun i u hu => ?_⟩
    match i, hu with
    | 0, hu =>
      simp at hu; subst hu
      exact h2
theorem newsB {W w3 : World} {n k : Nat} {x : ByteArray} {t : List UInt8} (b : Below n W w3) (h : W.cell? ⟨k, 0, none⟩ = some (.string x)) (hk : k < n) (hx : x = ⟨t.toArray⟩) : ∀ (j : Nat) (u : List UInt8), [t][j]? = some u → w3.cell? ⟨k, j, none⟩ = some (strV u) := by
  subst hx
  intro j u hj
  match j, hj with
  | 0, hj =>
    simp at hj; subst hj
    rw [b.cell (p := ⟨k, 0, none⟩) hk, h]; rfl
theorem newsC {w3 : World} {k : Nat} {o : Option Value} {x : ByteArray} {t : List UInt8} (h : w3.cell? ⟨k, 0, none⟩ = o) (h2 : o = some (.string x)) (hx : x = ⟨t.toArray⟩) : ∀ (j : Nat) (u : List UInt8), [t][j]? = some u → w3.cell? ⟨k, j, none⟩ = some (strV u) := by
  subst hx
  subst h2
  intro j u hj
  match j, hj with
  | 0, hj =>
    simp at hj; subst hj
    rw [h]; rfl
theorem ownKept {B : Nat} {ts : List (List UInt8)} {v : Value} {w w' : World} (h : Strs B ts v w) (k : Below w.heap.size w w') : Strs B ts v w' := h.below k
theorem lt_of_heap' {w : World} {b : Nat} {o : Obj} (h : w.heap[b]? = some o) : b < w.heap.size := (Array.getElem?_eq_some_iff.1 h).1
theorem isWord_b (s : ByteArray) (b : Bool) (w : World) (hs : s.size ≤ 1048576) (h : wordB s.data.toList = b) :
    Calls Tryd.prog 43 #[.string s] w fun e w' => e = .returned (.bool b) ∧ Below w.heap.size w w' := by subst h; exact isWord_any s w (by unfold maxLen; omega)
set_option maxRecDepth 100000 in
set_option maxHeartbeats 8000000 in
theorem sAddWord_any (P B : ByteArray) (ts : List (List UInt8)) (wd : ByteArray) (g c : Nat) (E : Nat) (w : World) (hf : Fit P B ts) (hw : wd.size ≤ 1048576) (h : Strs E ts (.slice (some ⟨g, 0, none⟩) ts.length c) w) :
    Calls Tryd.prog 17 #[.agg #[.string P, .string B, .slice (some ⟨g, 0, none⟩) ts.length c], .string wd] w fun e w' => (∃ a cap, e = .returned (.tuple #[.agg #[.string (awP (awB P B ts wd) P), .string (awP (awB P B ts wd) B), .slice a (awT (awB P B ts wd) (ts ++ [wd.data.toList])).length cap], .bool (awB P B ts wd)]) ∧ Strs w.heap.size (awT (awB P B ts wd) (ts ++ [wd.data.toList])) (.slice a (awT (awB P B ts wd) (ts ++ [wd.data.toList])).length cap) w') ∧ Below w.heap.size w w' := by
  have HV := Lib.hid h
  have HF := Lib.hid hf
  clear h hf
  cases hg : schB P.data.toList B.data.toList ts with
  | false =>
    have HG := Lib.hid hg
    have HZ : Hid (awB P B ts wd = false) := by show _ = _; unfold awB; rw [hg]; rfl
    clear hg
    go_enter Tryd.func17, Tryd.ntmps17
    go_wp2_with (go_at_call 33; (with_reducible refine (sGood_b P B ts _ false _ HF.out (HV.out.rd.below (by go_grown)) HG.out).mono ?_); rintro e w1 ⟨rfl, b1⟩; have hp := heap_pair b1; obtain ⟨c0, c1, c2, f1, s1⟩ := blk_cells hp.1; obtain ⟨d0, d1, d2, f2, s2⟩ := blk_cells hp.2; have B1 : Below w.heap.size w w1 := chain (w := w) (by go_grown) b1)
    refine bodyPost_ret (results_row_tmp rfl _ _ (w.heap.size + 1) 27 #[.string ⟨#[]⟩, .string ⟨#[]⟩, .slice none 0 0] (0, 0) _ rfl ?_ Tryd.underlying27 rfl (by kernel_rfl)) rfl ?_
    · simp [World.setCell, Array.getElem?_modify, hp.2]
    refine ⟨⟨none, 0, by rw [HZ.out]; rfl, by rw [HZ.out]; exact World.ownsRow_nil _ _ _ _⟩, ?_⟩
    exact below_low (below_low (below_low B1 _ _ _ (by omega)) _ _ _ (by omega)) _ _ _ (by omega)
  | true =>
    have HG := Lib.hid hg
    have hn3 := sch_three' hg
    cases hwd : wordB wd.data.toList with
    | false =>
      have HW : Hid (szsB wd.data.toList 1 4 = false) := hwd
      have HZ : Hid (awB P B ts wd = false) := by show _ = _; unfold awB; rw [hwd]; simp
      clear hg hwd
      go_enter Tryd.func17, Tryd.ntmps17
      go_wp2_with (first | (go_at_call 33; (with_reducible refine (sGood_b P B ts _ true _ HF.out (HV.out.rd.below (by go_grown)) HG.out).mono ?_); rintro e w1 ⟨rfl, b1⟩; have hp := heap_pair b1; obtain ⟨c0, c1, c2, f1, s1⟩ := blk_cells hp.1; obtain ⟨d0, d1, d2, f2, s2⟩ := blk_cells hp.2; have B1 : Below w.heap.size w w1 := chain (w := w) (by go_grown) b1) | (go_at_call 41; (with_reducible refine (plSigns_b wd 1 4 false _ hw HW.out).mono ?_); rintro e w2 ⟨rfl, rfl⟩))
      refine bodyPost_ret (results_row_tmp rfl _ _ (w.heap.size + 1) 27 #[.string ⟨#[]⟩, .string ⟨#[]⟩, .slice none 0 0] (0, 0) _ rfl ?_ Tryd.underlying27 rfl (by kernel_rfl)) rfl ?_
      · simp [World.setCell, Array.getElem?_modify, hp.2]
      refine ⟨⟨none, 0, by rw [HZ.out]; rfl, by rw [HZ.out]; exact World.ownsRow_nil _ _ _ _⟩, ?_⟩
      exact below_low (below_low (below_low B1 _ _ _ (by omega)) _ _ _ (by omega)) _ _ _ (by omega)
    | true =>
      have HW : Hid (szsB wd.data.toList 1 4 = true) := hwd
      by_cases h3 : ts.length = 3
      · have h3i : (ts.length : Int) = 3 := by omega
        have h3q : ((ts.length : Int) == 3) = true := by simpa using h3i
        have HZ : Hid (awB P B ts wd = false) := by show _ = _; unfold awB; rw [decide_eq_true h3]; simp
        clear hg hwd h3i h3
        go_enter Tryd.func17, Tryd.ntmps17
        go_wp2_with (first | (go_at_call 33; (with_reducible refine (sGood_b P B ts _ true _ HF.out (HV.out.rd.below (by go_grown)) HG.out).mono ?_); rintro e w1 ⟨rfl, b1⟩; have hp := heap_pair b1; obtain ⟨c0, c1, c2, f1, s1⟩ := blk_cells hp.1; obtain ⟨d0, d1, d2, f2, s2⟩ := blk_cells hp.2; have B1 : Below w.heap.size w w1 := chain (w := w) (by go_grown) b1) | (go_at_call 41; (with_reducible refine (plSigns_b wd 1 4 true _ hw HW.out).mono ?_); rintro e w2 ⟨rfl, rfl⟩))
        refine bodyPost_ret (results_row_tmp rfl _ _ (w.heap.size + 1) 27 #[.string ⟨#[]⟩, .string ⟨#[]⟩, .slice none 0 0] (0, 0) _ rfl ?_ Tryd.underlying27 rfl (by kernel_rfl)) rfl ?_
        · simp [World.setCell, Array.getElem?_modify, hp.2]
        refine ⟨⟨none, 0, by rw [HZ.out]; rfl, by rw [HZ.out]; exact World.ownsRow_nil _ _ _ _⟩, ?_⟩
        exact below_low (below_low (below_low B1 _ _ _ (by omega)) _ _ _ (by omega)) _ _ _ (by omega)
      · have h3i : ¬ (ts.length : Int) = 3 := by omega
        have h3q : ((ts.length : Int) == 3) = false := by simpa using h3i
        have HZ : Hid (awB P B ts wd = true) := by show _ = _; unfold awB; rw [hg, hwd, decide_eq_false h3]; rfl
        clear hg hwd h3i h3
        go_enter Tryd.func17, Tryd.ntmps17
        go_wp2_with (first | (go_at_call 33; (with_reducible refine (sGood_b P B ts _ true _ HF.out (HV.out.rd.below (by go_grown)) HG.out).mono ?_); rintro e w1 ⟨rfl, b1⟩; have hp := heap_pair b1; obtain ⟨c0, c1, c2, f1, s1⟩ := blk_cells hp.1; obtain ⟨d0, d1, d2, f2, s2⟩ := blk_cells hp.2; have B1 : Below w.heap.size w w1 := chain (w := w) (by go_grown) b1) | (go_at_call 41; (with_reducible refine (plSigns_b wd 1 4 true _ hw HW.out).mono ?_); rintro e w2 ⟨rfl, rfl⟩))
        have HV2 : Hid (Strs E ts (.slice (some ⟨g, 0, none⟩) ts.length c) w1) := by have h0 := HV.out.rd.below B1; exact ownKept HV.out B1
        have hsn : ts.length ≤ 1000 := by omega
        have hq1 : w.heap.size < w1.heap.size := lt_of_heap' hp.1
        have hq2 : w.heap.size + 1 < w1.heap.size := lt_of_heap' hp.2
        have hq3 : ¬ w.heap.size = w1.heap.size := by omega
        have hq4 : ¬ w.heap.size + 1 = w1.heap.size := by omega
        clear hn3
        go_region_held3 (fun w' => w'.cell? ⟨w.heap.size, 0, none⟩ = some (.string P) ∧ w'.cell? ⟨w.heap.size, 1, none⟩ = some (.string B) ∧ w'.cell? ⟨w.heap.size, 2, none⟩ = some (.slice (some ⟨g, 0, none⟩) ts.length c))
          (first | go_keep | exact ⟨k0, k1, k2⟩ | exact ⟨n0, n1, n2⟩)
          (first
          | (go_at_call 42; (with_reducible refine (ownS_any ts ⟨g, 0, none⟩ c _ (by omega) (HV2.out.lie.below (by go_grown))).mono ?_); rintro e w3 ⟨⟨u, rfl, hu⟩, b3⟩; have B3 : Below w1.heap.size w1 w3 := chain (w := w1) (by go_grown) b3; have hu1 : Strs w1.heap.size ts u w3 := hu.mono (show Below w1.heap.size w1 _ by go_grown).size; have hz3 := B3.size; have r1 := Nat.lt_of_lt_of_le hq1 hz3; have r2 := Nat.lt_of_lt_of_le hq2 hz3; have r3 : ¬ w.heap.size = w3.heap.size := Nat.ne_of_lt r1; have r4 : ¬ w.heap.size + 1 = w3.heap.size := Nat.ne_of_lt r2; have hp3 : w3.heap[w.heap.size]? = _ ∧ w3.heap[w.heap.size + 1]? = _ := ⟨(B3.block _ (lt_of_heap' hp.1)).trans hp.1, (B3.block _ (lt_of_heap' hp.2)).trans hp.2⟩; obtain ⟨k0, k1, k2, fk1, sk1⟩ := blk_cells hp3.1; obtain ⟨l0, l1, l2, fl2, sl2⟩ := blk_cells hp3.2)
          | (refine step_append_strsG _ rfl _ _ rfl w1.heap.size ts _ rfl (hu1.below (by go_grown)) _ [wd.data.toList] rfl (by first | exact news1 _ _ rfl | (refine newsB (x := wd) b3 ?_ ?_ rfl <;> simp)) (by simp) (by simp; omega) (by first | omega | (simp; omega)) ?_; intro ga ca w4 hu4 b4; have B4 : Below w1.heap.size w1 w4 := (B3.trans ((show Below w3.heap.size w3 _ by go_grown).mono hz3)).trans b4; have hp4 : w4.heap[w.heap.size]? = _ ∧ w4.heap[w.heap.size + 1]? = _ := ⟨(B4.block _ (lt_of_heap' hp.1)).trans hp.1, (B4.block _ (lt_of_heap' hp.2)).trans hp.2⟩; obtain ⟨m0, m1, m2, fm2, sm2⟩ := blk_cells hp4.2; obtain ⟨n0, n1, n2, fn2, sn2⟩ := blk_cells hp4.1))
        all_goals go_wp2
        all_goals
          refine bodyPost_ret (results_row_tmp rfl _ _ (w.heap.size + 1) 27 #[.string P, .string B, .slice (some ⟨ga, 0, none⟩) (ts.length + 1) ca] (0, 0) _ rfl ?_ Tryd.underlying27 rfl (by kernel_rfl)) rfl ?_
          · simp [World.setCell, Array.getElem?_modify, hp4.2]
          have hw1 : w.heap.size ≤ w1.heap.size := B1.size
          have hb4 : Below w.heap.size w w4 := B1.trans (B4.mono hw1)
          refine ⟨⟨some ⟨ga, 0, none⟩, ca, by rw [HZ.out]; simp [awP, awT], ?_⟩, below_low (below_low (below_low hb4 _ _ _ (by omega)) _ _ _ (by omega)) _ _ _ (by omega)⟩
          rw [HZ.out]
          simp only [awT, if_true, List.length_append, List.length_singleton]
          have hlow : w.heap.size + 1 < w1.heap.size := hq2
          have hu5 := ((hu4.setLow (a := ⟨w.heap.size + 1, 0, none⟩) hlow (.string P)).setLow (a := ⟨w.heap.size + 1, 1, none⟩) hlow (.string B)).setLow (a := ⟨w.heap.size + 1, 2, none⟩) hlow (.slice (some ⟨ga, 0, none⟩) (ts.length + 1) ca)
          exact hu5.mono hw1
set_option maxRecDepth 100000 in
set_option maxHeartbeats 8000000 in
theorem iAddWord_any (P B : ByteArray) (ts : List (List UInt8)) (wd : ByteArray) (g c : Nat) (E : Nat) (w : World) (hf : Fit P B ts) (hw : wd.size ≤ 1048576) (h : Strs E ts (.slice (some ⟨g, 0, none⟩) ts.length c) w) :
    Calls Tryd.prog 18 #[.agg #[.string P, .string B, .slice (some ⟨g, 0, none⟩) ts.length c], .string wd] w fun e w' => (∃ a cap, e = .returned (.tuple #[.agg #[.string (awP (awB P B ts wd) P), .string (awP (awB P B ts wd) B), .slice a (awT (awB P B ts wd) (ts ++ [wd.data.toList])).length cap], .bool (awB P B ts wd)]) ∧ Strs w.heap.size (awT (awB P B ts wd) (ts ++ [wd.data.toList])) (.slice a (awT (awB P B ts wd) (ts ++ [wd.data.toList])).length cap) w') ∧ Below w.heap.size w w' := by
  have HV := Lib.hid h
  have HF := Lib.hid hf
  clear h hf
  cases hg : schB P.data.toList B.data.toList ts with
  | false =>
    have HG := Lib.hid hg
    have HZ : Hid (awB P B ts wd = false) := by show _ = _; unfold awB; rw [hg]; rfl
    clear hg
    go_enter Tryd.func18, Tryd.ntmps18
    go_wp2_with (go_at_call 13; (with_reducible refine (iGood_b P B ts _ false _ HF.out (HV.out.rd.below (by go_grown)) HG.out).mono ?_); rintro e w1 ⟨rfl, b1⟩; have hp := heap_pair b1; obtain ⟨c0, c1, c2, f1, s1⟩ := blk_cells hp.1; obtain ⟨d0, d1, d2, f2, s2⟩ := blk_cells hp.2; have B1 : Below w.heap.size w w1 := chain (w := w) (by go_grown) b1)
    refine bodyPost_ret (results_row_tmp rfl _ _ (w.heap.size + 1) 27 #[.string ⟨#[]⟩, .string ⟨#[]⟩, .slice none 0 0] (0, 0) _ rfl ?_ Tryd.underlying27 rfl (by kernel_rfl)) rfl ?_
    · simp [World.setCell, Array.getElem?_modify, hp.2]
    refine ⟨⟨none, 0, by rw [HZ.out]; rfl, by rw [HZ.out]; exact World.ownsRow_nil _ _ _ _⟩, ?_⟩
    exact below_low (below_low (below_low B1 _ _ _ (by omega)) _ _ _ (by omega)) _ _ _ (by omega)
  | true =>
    have HG := Lib.hid hg
    have hn3 := sch_three' hg
    cases hwd : wordB wd.data.toList with
    | false =>
      have HW : Hid (wordB wd.data.toList = false) := hwd
      have HZ : Hid (awB P B ts wd = false) := by show _ = _; unfold awB; rw [hwd]; simp
      clear hg hwd
      go_enter Tryd.func18, Tryd.ntmps18
      go_wp2_with (first | (go_at_call 13; (with_reducible refine (iGood_b P B ts _ true _ HF.out (HV.out.rd.below (by go_grown)) HG.out).mono ?_); rintro e w1 ⟨rfl, b1⟩; have hp := heap_pair b1; obtain ⟨c0, c1, c2, f1, s1⟩ := blk_cells hp.1; obtain ⟨d0, d1, d2, f2, s2⟩ := blk_cells hp.2; have B1 : Below w.heap.size w w1 := chain (w := w) (by go_grown) b1) | (go_at_call 43; (with_reducible refine (isWord_b wd false _ hw HW.out).mono ?_); rintro e w2 ⟨rfl, b2⟩; have hp : w2.heap[w.heap.size]? = _ ∧ w2.heap[w.heap.size + 1]? = _ := ⟨(b2.block _ (lt_of_heap' hp.1)).trans hp.1, (b2.block _ (lt_of_heap' hp.2)).trans hp.2⟩; obtain ⟨c0, c1, c2, f1, s1⟩ := blk_cells hp.1; obtain ⟨d0, d1, d2, f2, s2⟩ := blk_cells hp.2; have B2 := chain B1 b2))
      refine bodyPost_ret (results_row_tmp rfl _ _ (w.heap.size + 1) 27 #[.string ⟨#[]⟩, .string ⟨#[]⟩, .slice none 0 0] (0, 0) _ rfl ?_ Tryd.underlying27 rfl (by kernel_rfl)) rfl ?_
      · simp [World.setCell, Array.getElem?_modify, hp.2]
      refine ⟨⟨none, 0, by rw [HZ.out]; rfl, by rw [HZ.out]; exact World.ownsRow_nil _ _ _ _⟩, ?_⟩
      exact below_low (below_low (below_low B2 _ _ _ (by omega)) _ _ _ (by omega)) _ _ _ (by omega)
    | true =>
      have HW : Hid (wordB wd.data.toList = true) := hwd
      by_cases h3 : ts.length = 3
      · have h3i : (ts.length : Int) = 3 := by omega
        have h3q : ((ts.length : Int) == 3) = true := by simpa using h3i
        have HZ : Hid (awB P B ts wd = false) := by show _ = _; unfold awB; rw [decide_eq_true h3]; simp
        clear hg hwd h3i h3
        go_enter Tryd.func18, Tryd.ntmps18
        go_wp2_with (first | (go_at_call 13; (with_reducible refine (iGood_b P B ts _ true _ HF.out (HV.out.rd.below (by go_grown)) HG.out).mono ?_); rintro e w1 ⟨rfl, b1⟩; have hp := heap_pair b1; obtain ⟨c0, c1, c2, f1, s1⟩ := blk_cells hp.1; obtain ⟨d0, d1, d2, f2, s2⟩ := blk_cells hp.2; have B1 : Below w.heap.size w w1 := chain (w := w) (by go_grown) b1) | (go_at_call 43; (with_reducible refine (isWord_b wd true _ hw HW.out).mono ?_); rintro e w2 ⟨rfl, b2⟩; have hp : w2.heap[w.heap.size]? = _ ∧ w2.heap[w.heap.size + 1]? = _ := ⟨(b2.block _ (lt_of_heap' hp.1)).trans hp.1, (b2.block _ (lt_of_heap' hp.2)).trans hp.2⟩; obtain ⟨c0, c1, c2, f1, s1⟩ := blk_cells hp.1; obtain ⟨d0, d1, d2, f2, s2⟩ := blk_cells hp.2; have B2 := chain B1 b2))
        refine bodyPost_ret (results_row_tmp rfl _ _ (w.heap.size + 1) 27 #[.string ⟨#[]⟩, .string ⟨#[]⟩, .slice none 0 0] (0, 0) _ rfl ?_ Tryd.underlying27 rfl (by kernel_rfl)) rfl ?_
        · simp [World.setCell, Array.getElem?_modify, hp.2]
        refine ⟨⟨none, 0, by rw [HZ.out]; rfl, by rw [HZ.out]; exact World.ownsRow_nil _ _ _ _⟩, ?_⟩
        exact below_low (below_low (below_low B2 _ _ _ (by omega)) _ _ _ (by omega)) _ _ _ (by omega)
      · have h3i : ¬ (ts.length : Int) = 3 := by omega
        have h3q : ((ts.length : Int) == 3) = false := by simpa using h3i
        have HZ : Hid (awB P B ts wd = true) := by show _ = _; unfold awB; rw [hg, hwd, decide_eq_false h3]; rfl
        clear hg hwd h3i h3
        go_enter Tryd.func18, Tryd.ntmps18
        go_wp2_with (first | (go_at_call 13; (with_reducible refine (iGood_b P B ts _ true _ HF.out (HV.out.rd.below (by go_grown)) HG.out).mono ?_); rintro e w1 ⟨rfl, b1⟩; have hp := heap_pair b1; obtain ⟨c0, c1, c2, f1, s1⟩ := blk_cells hp.1; obtain ⟨d0, d1, d2, f2, s2⟩ := blk_cells hp.2; have B1 : Below w.heap.size w w1 := chain (w := w) (by go_grown) b1) | (go_at_call 43; (with_reducible refine (isWord_b wd true _ hw HW.out).mono ?_); rintro e w2 ⟨rfl, b2⟩; have hp : w2.heap[w.heap.size]? = _ ∧ w2.heap[w.heap.size + 1]? = _ := ⟨(b2.block _ (lt_of_heap' hp.1)).trans hp.1, (b2.block _ (lt_of_heap' hp.2)).trans hp.2⟩; obtain ⟨c0, c1, c2, f1, s1⟩ := blk_cells hp.1; obtain ⟨d0, d1, d2, f2, s2⟩ := blk_cells hp.2; have B2 := chain B1 b2))
        have HV2 : Hid (Strs E ts (.slice (some ⟨g, 0, none⟩) ts.length c) w2) := by have h0 := HV.out.rd.below B2; exact ownKept HV.out B2
        have hsn : ts.length ≤ 1000 := by omega
        have hq1 : w.heap.size < w2.heap.size := lt_of_heap' hp.1
        have hq2 : w.heap.size + 1 < w2.heap.size := lt_of_heap' hp.2
        have hq3 : ¬ w.heap.size = w2.heap.size := by omega
        have hq4 : ¬ w.heap.size + 1 = w2.heap.size := by omega
        clear hn3
        have hct : ∀ j, j < [ts, [wd.data.toList]].length → ([ts, [wd.data.toList]].getD j []).length ≤ 1000 := by
          intro j hj
          match j, hj with
          | 0, _ => simpa using hsn
          | 1, _ => simp
        have HCT := Lib.hid hct
        have HLI := Lib.hid HV2.out.lie
        clear hct
        go_region_held3 (fun w' => w'.cell? ⟨w.heap.size, 0, none⟩ = some (.string P) ∧ w'.cell? ⟨w.heap.size, 1, none⟩ = some (.string B) ∧ w'.cell? ⟨w.heap.size, 2, none⟩ = some (.slice (some ⟨g, 0, none⟩) ts.length c))
          (first | go_keep | exact ⟨k0, k1, k2⟩)
          (first
          | (go_at_call 44; (with_reducible refine (conc_any [ts, [wd.data.toList]] _ 2 2 _ rfl (by omega) HCT.out (lies2 (x := wd) (k := w2.heap.size) (ad := ⟨g, 0, none⟩) (c := c) (by simp) (by simp) (by simp) (by simp) (by simp; omega) rfl (HLI.out.below (by go_grown)))).mono ?_); rintro e w3 ⟨⟨u, rfl, hu⟩, b3⟩; have B3 : Below w2.heap.size w2 w3 := chain (w := w2) (by go_grown) b3; have hu0 : Strs w2.heap.size (ts ++ [wd.data.toList]) u w3 := (by have h9 := hu.mono (show Below w2.heap.size w2 _ by go_grown).size; simpa using h9); obtain ⟨ga, ca, hue⟩ := hu0.len; rw [List.length_append, List.length_singleton] at hue; rw [hue] at hu0 ⊢; have hu1 := hu0; have hz3 := B3.size; have hp3 : w3.heap[w.heap.size]? = _ ∧ w3.heap[w.heap.size + 1]? = _ := ⟨(B3.block _ (lt_of_heap' hp.1)).trans hp.1, (B3.block _ (lt_of_heap' hp.2)).trans hp.2⟩; obtain ⟨k0, k1, k2, fk1, sk1⟩ := blk_cells hp3.1; obtain ⟨l0, l1, l2, fl2, sl2⟩ := blk_cells hp3.2))
        all_goals go_wp2
        all_goals
          refine bodyPost_ret (results_row_tmp rfl _ _ (w.heap.size + 1) 27 #[.string P, .string B, .slice ga (ts.length + 1) ca] (0, 0) _ rfl ?_ Tryd.underlying27 rfl (by kernel_rfl)) rfl ?_
          · simp [World.setCell, Array.getElem?_modify, hp3.2]
          have hw1 : w.heap.size ≤ w2.heap.size := B2.size
          have hb3 : Below w.heap.size w w3 := B2.trans (B3.mono hw1)
          refine ⟨⟨ga, ca, by rw [HZ.out]; simp [awP, awT], ?_⟩, below_low (below_low (below_low hb3 _ _ _ (by omega)) _ _ _ (by omega)) _ _ _ (by omega)⟩
          rw [HZ.out]
          simp only [awT, if_true, List.length_append, List.length_singleton]
          have hlow : w.heap.size + 1 < w2.heap.size := hq2
          have hu5 := ((hu1.setLow (a := ⟨w.heap.size + 1, 0, none⟩) hlow (.string P)).setLow (a := ⟨w.heap.size + 1, 1, none⟩) hlow (.string B)).setLow (a := ⟨w.heap.size + 1, 2, none⟩) hlow (.slice ga (ts.length + 1) ca)
          exact hu5.mono hw1
end Go.Proofs.YtbnbfohlpankcabDoor
