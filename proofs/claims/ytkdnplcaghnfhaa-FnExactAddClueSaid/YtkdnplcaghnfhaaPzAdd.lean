/-
  A clue added: both sides.
-/
import Derived.Test.YtkdnplcaghnfhaaPzDrop
import Derived.Test.YtkdnplcaghnfhaaPzMark
import Derived.Deep.RegionLawGrows
import Derived.Deep.RegionHeld3
namespace Go.Proofs.Ytkdnplcaghnfhaa
open Go.RowKit Go.Deep
set_option maxRecDepth 100000

def adB (cs : List Cl) (c : Cl) : Bool := pzB cs && clB c && decide (cs.length < 6)
def adA (cs : List Cl) (c : Cl) : List Cl := if adB cs c then cs ++ [c] else []
theorem adA_no {cs : List Cl} {c : Cl} (h : adB cs c = false) : adA cs c = [] := by unfold adA; rw [if_neg (by rw [h]; simp)]
theorem adA_yes {cs : List Cl} {c : Cl} (h : adB cs c = true) : adA cs c = cs ++ [c] := by unfold adA; rw [if_pos h]
theorem adA_len (cs : List Cl) (c : Cl) : (adA cs c).length ≤ 1000 := by
  cases h : adB cs c with
  | false => rw [adA_no h]; simp
  | true =>
    rw [adA_yes h]
    unfold adB at h
    simp at h ⊢; omega
theorem clcells (w : World) (c : Cl) (T : TypeId) (g : Nat) (hg : g = w.heap.size) : ∀ j u, [Value.int .i64 c.k, .int .i64 c.a, .int .i64 c.b][j]? = some u → (w.alloc (.cells #[.int .i64 c.k, .int .i64 c.a, .int .i64 c.b] T)).cell? ((⟨g, 0, none⟩ : Addr).add j) = some u := by
  subst hg
  intro j u hj
  have hb := Blk.new w #[.int .i64 c.k, .int .i64 c.a, .int .i64 c.b] T
  have e : (⟨w.heap.size, 0, none⟩ : Addr).add j = ⟨w.heap.size, j, none⟩ := by unfold Addr.add; split <;> simp_all
  rw [e, hb.cell]
  simpa using hj
theorem clu_app {B : Nat} {cs : List Cl} {c : Cl} {n : Nat} {v : Value} {w : World} (hn : n = cs.length) (h : w.ownsRow B 43 3 v (n + 1) (flc cs ++ [.int .i64 c.k, .int .i64 c.a, .int .i64 c.b])) : Clu B (cs ++ [c]) v w := by
  unfold Clu
  rw [List.length_append, flc_append, ← hn]
  exact h
theorem cutToA (ad A : Addr) (n cap l hh q : Nat) (x y : Int) (w : World) (hA : adC ad l hh = A) (hq : hh - l = q) (hx : x = (l : Int)) (hy : y = (hh : Int)) (h1 : l ≤ hh) (h3 : hh ≤ cap) :
    Calls Try.prog 27 #[.slice (some ad) n cap, .int .i64 x, .int .i64 y] w fun e w' => e = .returned (.slice (some A) q q) ∧ w = w' := by
  rw [← hA, ← hq]; exact cut_any ad n cap l hh x y w hx hy h1 h3
theorem isClue_x (c : Cl) (x : Bool) (w : World) (h : clB c = x) :
    Calls Try.prog 26 #[.agg #[.int .i64 c.k, .int .i64 c.a, .int .i64 c.b]] w fun e w' => e = .returned (.bool x) ∧ Below w.heap.size w w' := by subst h; exact isClue_any c w
set_option maxHeartbeats 4000000 in
theorem iAd_any (cs : List Cl) (c : Cl) (ad : Addr) (n cap : Nat) (w : World) (hn : cs.length ≤ 1048576) (h : RdC cs (.slice (some ad) n cap) w) :
    Calls Try.prog 14 #[.agg #[.slice (some ad) n cap], .agg #[.int .i64 c.k, .int .i64 c.a, .int .i64 c.b]] w fun e w' => (∃ a n, e = .returned (.tuple #[.agg #[.slice a (adA cs c).length n], .bool (adB cs c)]) ∧ Clu w.heap.size (adA cs c) (.slice a (adA cs c).length n) w') ∧ Below w.heap.size w w' := by
  have HV := Lib.hid h
  have HR := Lib.hid (h.below (below3 w (.cells #[.slice (some ad) n cap] 39) (.cells #[.int .i64 c.k, .int .i64 c.a, .int .i64 c.b] 43) (.cells #[.slice none 0 0] 39)))
  have HL := Lib.hid h.len
  clear h
  cases hg : pzB cs with
  | false =>
    have HG := Lib.hid hg
    have hz : adB cs c = false := by unfold adB; rw [hg]; rfl
    have HA := Lib.hid (adA_no hz)
    have HB := Lib.hid hz
    clear hg hz
    go_enter Try.func14, Try.ntmps14
    go_wp2_with (go_at_call 25; (with_reducible refine (isPuzzle_b cs false _ _ hn HR.out HG.out).mono ?_); rintro e w1 ⟨rfl, b1⟩; obtain ⟨p0, p1, p2⟩ := heap_three b1; obtain ⟨e0, f0, s0⟩ := blk1 p0; obtain ⟨c0', c1', c2', cf, cs'⟩ := blk3 p1; obtain ⟨e2, f2, s2⟩ := blk1 p2; have z0 := (Array.getElem?_eq_some_iff.1 p0).1; have z1 := (Array.getElem?_eq_some_iff.1 p1).1; have z2 := (Array.getElem?_eq_some_iff.1 p2).1; have B1 : Below w.heap.size w w1 := (below3 w _ _ _).trans (b1.mono (by simp only [World.size_alloc]; omega)))
    · refine bodyPost_ret (results_row_tmp rfl _ _ (w.heap.size + 1 + 1) 39 #[.slice none 0 0] (0, 0) _ rfl ?_ Try.underlying39 rfl (by kernel_rfl)) rfl ?_
      · have := heap_setCell_same _ (w.heap.size + 1 + 1) 0 _ _ (.slice none 0 0) p2
        simpa using this
      · refine ⟨⟨none, 0, by rw [HA.out, HB.out]; rfl, by rw [HA.out]; exact Clu.nil _ _⟩, B1.setCell (by simp only; omega) _⟩
  | true =>
    have HG := Lib.hid hg
    have hl6 := pz_len hg
    have hnl := HL.out.1
    have hnc := HL.out.2
    have HN : Hid (n = cs.length) := hnl
    have hn6 : n ≤ 6 := by omega
    have hcn : n ≤ cap := by omega
    rcases (show clB c = false ∨ clB c = true by cases clB c <;> simp) with hc | hc
    · have HCB := Lib.hid hc
      have hz : adB cs c = false := by unfold adB; rw [hg, hc]; rfl
      have HA := Lib.hid (adA_no hz)
      have HB := Lib.hid hz
      clear hg hz hc hnl hnc hl6
      go_enter Try.func14, Try.ntmps14
      go_wp2_with (first
        | (go_at_call 25; (with_reducible refine (isPuzzle_b cs true _ _ hn HR.out HG.out).mono ?_); rintro e w1 ⟨rfl, b1⟩; obtain ⟨p0, p1, p2⟩ := heap_three b1; obtain ⟨e0, f0, s0⟩ := blk1 p0; obtain ⟨c0', c1', c2', cf, cs'⟩ := blk3 p1; obtain ⟨e2, f2, s2⟩ := blk1 p2; have z0 := (Array.getElem?_eq_some_iff.1 p0).1; have z1 := (Array.getElem?_eq_some_iff.1 p1).1; have z2 := (Array.getElem?_eq_some_iff.1 p2).1; have B1 : Below w.heap.size w w1 := (below3 w _ _ _).trans (b1.mono (by simp only [World.size_alloc]; omega)))
        | (go_at_call 26; (refine (isClue_x c false _ HCB.out).mono ?_); rintro e w2 ⟨rfl, b2⟩; have p0 := (b2.block _ z0).trans p0; have p1 := (b2.block _ z1).trans p1; have p2 := (b2.block _ z2).trans p2; obtain ⟨e0, f0, s0⟩ := blk1 p0; obtain ⟨c0', c1', c2', cf, cs'⟩ := blk3 p1; obtain ⟨e2, f2, s2⟩ := blk1 p2; have z0 := (Array.getElem?_eq_some_iff.1 p0).1; have z1 := (Array.getElem?_eq_some_iff.1 p1).1; have z2 := (Array.getElem?_eq_some_iff.1 p2).1; have B2 := chain B1 b2))
      refine bodyPost_ret (results_row_tmp rfl _ _ (w.heap.size + 1 + 1) 39 #[.slice none 0 0] (0, 0) _ rfl ?_ Try.underlying39 rfl (by kernel_rfl)) rfl ?_
      · have := heap_setCell_same _ (w.heap.size + 1 + 1) 0 _ _ (.slice none 0 0) p2
        simpa using this
      · refine ⟨⟨none, 0, by rw [HA.out, HB.out]; rfl, by rw [HA.out]; exact Clu.nil _ _⟩, B2.setCell (by simp only; omega) _⟩
    · have HCB := Lib.hid hc
      by_cases h6 : n = 6
      · have hz : adB cs c = false := by unfold adB; rw [decide_eq_false (by omega), Bool.and_false]
        have HA := Lib.hid (adA_no hz)
        have HB := Lib.hid hz
        clear hg hz hc hnl hnc hl6
        subst h6
        go_enter Try.func14, Try.ntmps14
        go_wp2_with (first
          | (go_at_call 25; (with_reducible refine (isPuzzle_b cs true _ _ hn HR.out HG.out).mono ?_); rintro e w1 ⟨rfl, b1⟩; obtain ⟨p0, p1, p2⟩ := heap_three b1; obtain ⟨e0, f0, s0⟩ := blk1 p0; obtain ⟨c0', c1', c2', cf, cs'⟩ := blk3 p1; obtain ⟨e2, f2, s2⟩ := blk1 p2; have z0 := (Array.getElem?_eq_some_iff.1 p0).1; have z1 := (Array.getElem?_eq_some_iff.1 p1).1; have z2 := (Array.getElem?_eq_some_iff.1 p2).1; have B1 : Below w.heap.size w w1 := (below3 w _ _ _).trans (b1.mono (by simp only [World.size_alloc]; omega)))
          | (go_at_call 26; (refine (isClue_x c true _ HCB.out).mono ?_); rintro e w2 ⟨rfl, b2⟩; have p0 := (b2.block _ z0).trans p0; have p1 := (b2.block _ z1).trans p1; have p2 := (b2.block _ z2).trans p2; obtain ⟨e0, f0, s0⟩ := blk1 p0; obtain ⟨c0', c1', c2', cf, cs'⟩ := blk3 p1; obtain ⟨e2, f2, s2⟩ := blk1 p2; have z0 := (Array.getElem?_eq_some_iff.1 p0).1; have z1 := (Array.getElem?_eq_some_iff.1 p1).1; have z2 := (Array.getElem?_eq_some_iff.1 p2).1; have B2 := chain B1 b2))
        refine bodyPost_ret (results_row_tmp rfl _ _ (w.heap.size + 1 + 1) 39 #[.slice none 0 0] (0, 0) _ rfl ?_ Try.underlying39 rfl (by kernel_rfl)) rfl ?_
        · have := heap_setCell_same _ (w.heap.size + 1 + 1) 0 _ _ (.slice none 0 0) p2
          simpa using this
        · refine ⟨⟨none, 0, by rw [HA.out, HB.out]; rfl, by rw [HA.out]; exact Clu.nil _ _⟩, B2.setCell (by simp only; omega) _⟩
      · have hz : adB cs c = true := by unfold adB; rw [hg, hc, decide_eq_true (by omega)]; rfl
        have HA := Lib.hid (adA_yes hz)
        have HB := Lib.hid hz
        have hq : ((n : Int) == 6) = false := by rw [beq_eq_false_iff_ne]; omega
        obtain ⟨A, hA⟩ : ∃ A, adC ad 0 n = A := ⟨_, rfl⟩
        have HAD := Lib.hid hA
        have HCUT := Lib.hid (fun (W : World) => cutToA ad A n cap 0 n n 0 n W hA (by omega) rfl rfl (by omega) (by omega))
        obtain ⟨i0, hi, hz0, hz1, hz2⟩ := clue_info
        have HRA : Hid (∀ W, RdC cs (.slice (some ad) n cap) W → RdC cs (.slice (some A) n n) W) := by
          intro W hr
          have := hr.cut 0 n n (Nat.zero_le _) (by omega) (Nat.le_refl _)
          rw [hA, List.drop_zero, Nat.sub_zero, hnl, List.take_length] at this
          rw [hnl]; exact this
        clear hg hz hc hnl hnc hl6 hA
        go_enter Try.func14, Try.ntmps14
        go_wp2_with (first
          | (go_at_call 25; (with_reducible refine (isPuzzle_b cs true _ _ hn HR.out HG.out).mono ?_); rintro e w1 ⟨rfl, b1⟩; obtain ⟨p0, p1, p2⟩ := heap_three b1; obtain ⟨e0, f0, s0⟩ := blk1 p0; obtain ⟨c0', c1', c2', cf, cs'⟩ := blk3 p1; obtain ⟨e2, f2, s2⟩ := blk1 p2; have z0 := (Array.getElem?_eq_some_iff.1 p0).1; have z1 := (Array.getElem?_eq_some_iff.1 p1).1; have z2 := (Array.getElem?_eq_some_iff.1 p2).1; have B1 : Below w.heap.size w w1 := (below3 w _ _ _).trans (b1.mono (by simp only [World.size_alloc]; omega)))
          | (go_at_call 26; (refine (isClue_x c true _ HCB.out).mono ?_); rintro e w2 ⟨rfl, b2⟩; have p0 := (b2.block _ z0).trans p0; have p1 := (b2.block _ z1).trans p1; have p2 := (b2.block _ z2).trans p2; obtain ⟨e0, f0, s0⟩ := blk1 p0; obtain ⟨c0', c1', c2', cf, cs'⟩ := blk3 p1; obtain ⟨e2, f2, s2⟩ := blk1 p2; have z0 := (Array.getElem?_eq_some_iff.1 p0).1; have z1 := (Array.getElem?_eq_some_iff.1 p1).1; have z2 := (Array.getElem?_eq_some_iff.1 p2).1; have B2 := chain B1 b2))
        go_region_held3 (fun w' => w'.cell? ⟨w.heap.size, 0, none⟩ = some (.slice (some ad) n cap) ∧ w'.cell? ⟨w.heap.size + 1, 0, none⟩ = some (.int .i64 c.k) ∧ w'.cell? ⟨w.heap.size + 1, 1, none⟩ = some (.int .i64 c.a) ∧ w'.cell? ⟨w.heap.size + 1, 2, none⟩ = some (.int .i64 c.b))
          (first | with_reducible exact ⟨k0, k1, k2', k3⟩ | exact ⟨(World.cell?_setCell_far _ _ _ _ (by dsimp only; omega)).trans k0, (World.cell?_setCell_far _ _ _ _ (by dsimp only; omega)).trans k1, (World.cell?_setCell_far _ _ _ _ (by dsimp only; omega)).trans k2', (World.cell?_setCell_far _ _ _ _ (by dsimp only; omega)).trans k3⟩ | (refine ⟨?_, ?_, ?_, ?_⟩ <;> go_keep))
          (first
          | (go_at_call 27; (refine (HCUT.out _).mono ?_); rintro e wc ⟨rfl, rfl⟩)
          | (have A9 := HRA.out _ (HV.out.below ((below_drw B2).alloc B2.size (.cells #[.int .i64 c.k, .int .i64 c.a, .int .i64 c.b] 43))); refine step_append_grows (by rfl) _ _ _ (by rfl) 43 i0 _ 3 24 Try.underlying37 hi hz0 hz1 hz2 rfl (by decide) (some A) n n (flc cs) (by rfl) (fun h => by cases h) (by rw [flc_len, HN.out]) (fun b hb => by cases hb; exact lie_clue A9) ⟨w2.heap.size, 0, none⟩ 1 1 [.int .i64 c.k, .int .i64 c.a, .int .i64 c.b] (by rfl) rfl (clcells _ c _ _ rfl) (by simp [Value.oneCell']) (by omega) (by unfold maxLen; omega) (by omega) ?_; intro v' w6 h6' g6; have b9 := below_drw ((Below.refl w2.heap.size w2).alloc (Nat.le_refl _) (.cells #[.int .i64 c.k, .int .i64 c.a, .int .i64 c.b] 43)); have i6 : Clu w2.heap.size (cs ++ [c]) v' w6 := (clu_app (c := c) HN.out h6').mono b9.size; have b6 := b9.grown g6 b9.size (fun q hq => by cases hq); have q2 := (b6.block _ z2).trans p2; obtain ⟨k2, kf, ks⟩ := blk1 q2; have kl := (Array.getElem?_eq_some_iff.1 q2).1; obtain ⟨k0, kf0, ks0⟩ := blk1 ((b6.block _ z0).trans p0); obtain ⟨k1, k2', k3, kf1, ks1⟩ := blk3 ((b6.block _ z1).trans p1); obtain ⟨a6, n6, hv⟩ := i6.val; obtain ⟨m6, hm6⟩ : ∃ m, (cs ++ [c]).length = m := ⟨_, rfl⟩; rw [hm6] at hv; subst hv; have HM6 := Lib.hid hm6; have I6 := Lib.hid i6; have BB6 := Lib.hid b6; have Q2 := Lib.hid q2; clear hm6 i6 b6 b9 A9 h6' g6 q2))
        all_goals
          go_wp2
          refine bodyPost_ret (results_row_tmp rfl _ _ (w.heap.size + 1 + 1) 39 #[.slice a6 m6 n6] (0, 0) _ rfl ?_ Try.underlying39 rfl (by kernel_rfl)) rfl ?_
          · have := heap_setCell_same w6 (w.heap.size + 1 + 1) 0 _ _ (.slice a6 m6 n6) Q2.out
            simpa using this
          · refine ⟨⟨a6, n6, by rw [HA.out, HB.out, HM6.out]; rfl, ?_⟩, (B2.trans (BB6.out.mono B2.size)).setCell (by simp only; omega) _⟩
            rw [HA.out, HM6.out]
            exact (I6.out.low z2 _ _).mono B2.size
theorem Clu.alloc' {B : Nat} {cs : List Cl} {v : Value} {w : World} (h : Clu B cs v w) (o : Obj) : Clu B cs v (w.alloc o) := h.below ((Below.refl _ _).alloc (Nat.le_refl _) o)
theorem Clu.drw {B : Nat} {cs : List Cl} {v : Value} {w : World} (h : Clu B cs v w) : Clu B cs v w.drew := h
theorem cluNil {g : Nat} (w : World) (T : TypeId) (hT : T = 43) (hg : g = w.heap.size) : Clu w.heap.size [] (.slice (some ⟨g, 0, none⟩) 0 0) (w.alloc (.cells #[] T)) := by
  subst hg; exact Clu.empty w T hT
theorem cluOne {g : Nat} (w : World) (c : Cl) (T : TypeId) (hT : T = 43) (hg : g = w.heap.size) : Clu w.heap.size [c] (.slice (some ⟨g, 0, none⟩) 1 1) (w.alloc (.cells #[.int .i64 c.k, .int .i64 c.a, .int .i64 c.b] T)) := by
  subst hT; subst hg
  exact ⟨rfl, .inr ⟨w.heap.size, 1, #[.int .i64 c.k, .int .i64 c.a, .int .i64 c.b], rfl, Nat.le_refl _, (MapKept.heap_alloc w _).1, Nat.le_refl _, by unfold maxLen; omega, rfl, rfl⟩⟩
theorem step_append_clusG {w : World} {ops : Array Oper} {o : Oper} {a : Act} {K : Act → World → Prop} {Q : Exit → Act → World → Prop} {E : Prop} (hgd : o.guard = none) (s x : Operand)
    (ho : o.op = .call { callee := .builtin .append, args := #[s, x], argTypes := #[37, 37] })
    (B : Nat) (ts : List Cl) (v : Value) (hs : a.eval s = v) (hown : Clu B ts v w) (ad : Addr) (m c : Nat) (us : List Cl) (hx : a.eval x = .slice (some ad) m c) (hr : RdC us (.slice (some ad) m c) w)
    (hlen : ts.length + us.length ≤ 2000000) (hB : B ≤ w.heap.size)
    (h : ∀ v' w', Clu B (ts ++ us) v' w' → Below B w w' → w.grownBy w' v.ownBlock → K (a.put o.dst v') w') :
    if Region.wanted o (yielded ops a.tmps) = true then Oper.wp Try.prog o a w K Q else E := by
  obtain ⟨i0, hi, hz0, hz1, hz2⟩ := clue_info
  have hm := hr.len.1
  have hw : Region.wanted o (yielded ops a.tmps) = true := by simp [Region.wanted, hgd]
  rw [if_pos hw]
  refine wp_append_own w s x 37 ho B 43 i0 _ 3 24 Try.underlying37 hi hz0 hz1 hz2 rfl (by decide) v ts.length (flc ts) hs hown ad m c (flc us) hx (by rw [flc_len, hm]) (lie_clue hr) (flc_int us) (by unfold maxLen; omega) (by omega) hB ?_
  intro v' w' h1 hg _
  refine h v' w' ?_ ?_ hg
  · unfold Clu; rw [List.length_append, flc_append, ← hm]; exact h1
  · exact (Below.refl B w).grown hg hB (fun q hq => (World.ownsRow.lt hown q hq).1)
set_option maxHeartbeats 4000000 in
theorem sAd_any (cs : List Cl) (c : Cl) (ad : Addr) (n cap : Nat) (w : World) (hn : cs.length ≤ 1048576) (h : RdC cs (.slice (some ad) n cap) w) :
    Calls Try.prog 11 #[.agg #[.slice (some ad) n cap], .agg #[.int .i64 c.k, .int .i64 c.a, .int .i64 c.b]] w fun e w' => (∃ a n, e = .returned (.tuple #[.agg #[.slice a (adA cs c).length n], .bool (adB cs c)]) ∧ Clu w.heap.size (adA cs c) (.slice a (adA cs c).length n) w') ∧ Below w.heap.size w w' := by
  have HV := Lib.hid h
  have HR := Lib.hid (h.below (below3 w (.cells #[.slice (some ad) n cap] 39) (.cells #[.int .i64 c.k, .int .i64 c.a, .int .i64 c.b] 43) (.cells #[.slice none 0 0] 39)))
  have HL := Lib.hid h.len
  clear h
  cases hg : pzB cs with
  | false =>
    have HG := Lib.hid hg
    have hz : adB cs c = false := by unfold adB; rw [hg]; rfl
    have HA := Lib.hid (adA_no hz)
    have HB := Lib.hid hz
    clear hg hz
    go_enter Try.func11, Try.ntmps11
    go_wp2_with (go_at_call 22; (with_reducible refine (pzGood_b cs false _ _ hn HR.out HG.out).mono ?_); rintro e w1 ⟨rfl, b1⟩; obtain ⟨p0, p1, p2⟩ := heap_three b1; obtain ⟨e0, f0, s0⟩ := blk1 p0; obtain ⟨c0', c1', c2', cf, cs'⟩ := blk3 p1; obtain ⟨e2, f2, s2⟩ := blk1 p2; have z0 := (Array.getElem?_eq_some_iff.1 p0).1; have z1 := (Array.getElem?_eq_some_iff.1 p1).1; have z2 := (Array.getElem?_eq_some_iff.1 p2).1; have B1 : Below w.heap.size w w1 := (below3 w _ _ _).trans (b1.mono (by simp only [World.size_alloc]; omega)))
    · refine bodyPost_ret (results_row_tmp rfl _ _ (w.heap.size + 1 + 1) 39 #[.slice none 0 0] (0, 0) _ rfl ?_ Try.underlying39 rfl (by kernel_rfl)) rfl ?_
      · have := heap_setCell_same _ (w.heap.size + 1 + 1) 0 _ _ (.slice none 0 0) p2
        simpa using this
      · refine ⟨⟨none, 0, by rw [HA.out, HB.out]; rfl, by rw [HA.out]; exact Clu.nil _ _⟩, B1.setCell (by simp only; omega) _⟩
  | true =>
    have HG := Lib.hid hg
    have hl6 := pz_len hg
    have hnl := HL.out.1
    have hnc := HL.out.2
    have HN : Hid (n = cs.length) := hnl
    have hn6 : n ≤ 6 := by omega
    have hcn : n ≤ cap := by omega
    rcases (show clB c = false ∨ clB c = true by cases clB c <;> simp) with hc | hc
    · have HCB := Lib.hid hc
      have hz : adB cs c = false := by unfold adB; rw [hg, hc]; rfl
      have HA := Lib.hid (adA_no hz)
      have HB := Lib.hid hz
      clear hg hz hc hnl hnc hl6
      go_enter Try.func11, Try.ntmps11
      go_wp2_with (first
        | (go_at_call 22; (with_reducible refine (pzGood_b cs true _ _ hn HR.out HG.out).mono ?_); rintro e w1 ⟨rfl, b1⟩; obtain ⟨p0, p1, p2⟩ := heap_three b1; obtain ⟨e0, f0, s0⟩ := blk1 p0; obtain ⟨c0', c1', c2', cf, cs'⟩ := blk3 p1; obtain ⟨e2, f2, s2⟩ := blk1 p2; have z0 := (Array.getElem?_eq_some_iff.1 p0).1; have z1 := (Array.getElem?_eq_some_iff.1 p1).1; have z2 := (Array.getElem?_eq_some_iff.1 p2).1; have B1 : Below w.heap.size w w1 := (below3 w _ _ _).trans (b1.mono (by simp only [World.size_alloc]; omega)))
        | (go_at_call 23; (refine (pzClue_b c false _ HCB.out).mono ?_); rintro e w2 ⟨rfl, b2⟩; have p0 := (b2.block _ z0).trans p0; have p1 := (b2.block _ z1).trans p1; have p2 := (b2.block _ z2).trans p2; obtain ⟨e0, f0, s0⟩ := blk1 p0; obtain ⟨c0', c1', c2', cf, cs'⟩ := blk3 p1; obtain ⟨e2, f2, s2⟩ := blk1 p2; have z0 := (Array.getElem?_eq_some_iff.1 p0).1; have z1 := (Array.getElem?_eq_some_iff.1 p1).1; have z2 := (Array.getElem?_eq_some_iff.1 p2).1; have B2 := chain B1 b2))
      refine bodyPost_ret (results_row_tmp rfl _ _ (w.heap.size + 1 + 1) 39 #[.slice none 0 0] (0, 0) _ rfl ?_ Try.underlying39 rfl (by kernel_rfl)) rfl ?_
      · have := heap_setCell_same _ (w.heap.size + 1 + 1) 0 _ _ (.slice none 0 0) p2
        simpa using this
      · refine ⟨⟨none, 0, by rw [HA.out, HB.out]; rfl, by rw [HA.out]; exact Clu.nil _ _⟩, B2.setCell (by simp only; omega) _⟩
    · have HCB := Lib.hid hc
      by_cases h6 : n = 6
      · have hz : adB cs c = false := by unfold adB; rw [decide_eq_false (by omega), Bool.and_false]
        have HA := Lib.hid (adA_no hz)
        have HB := Lib.hid hz
        clear hg hz hc hnl hnc hl6
        subst h6
        go_enter Try.func11, Try.ntmps11
        go_wp2_with (first
          | (go_at_call 22; (with_reducible refine (pzGood_b cs true _ _ hn HR.out HG.out).mono ?_); rintro e w1 ⟨rfl, b1⟩; obtain ⟨p0, p1, p2⟩ := heap_three b1; obtain ⟨e0, f0, s0⟩ := blk1 p0; obtain ⟨c0', c1', c2', cf, cs'⟩ := blk3 p1; obtain ⟨e2, f2, s2⟩ := blk1 p2; have z0 := (Array.getElem?_eq_some_iff.1 p0).1; have z1 := (Array.getElem?_eq_some_iff.1 p1).1; have z2 := (Array.getElem?_eq_some_iff.1 p2).1; have B1 : Below w.heap.size w w1 := (below3 w _ _ _).trans (b1.mono (by simp only [World.size_alloc]; omega)))
          | (go_at_call 23; (refine (pzClue_b c true _ HCB.out).mono ?_); rintro e w2 ⟨rfl, b2⟩; have p0 := (b2.block _ z0).trans p0; have p1 := (b2.block _ z1).trans p1; have p2 := (b2.block _ z2).trans p2; obtain ⟨e0, f0, s0⟩ := blk1 p0; obtain ⟨c0', c1', c2', cf, cs'⟩ := blk3 p1; obtain ⟨e2, f2, s2⟩ := blk1 p2; have z0 := (Array.getElem?_eq_some_iff.1 p0).1; have z1 := (Array.getElem?_eq_some_iff.1 p1).1; have z2 := (Array.getElem?_eq_some_iff.1 p2).1; have B2 := chain B1 b2))
        refine bodyPost_ret (results_row_tmp rfl _ _ (w.heap.size + 1 + 1) 39 #[.slice none 0 0] (0, 0) _ rfl ?_ Try.underlying39 rfl (by kernel_rfl)) rfl ?_
        · have := heap_setCell_same _ (w.heap.size + 1 + 1) 0 _ _ (.slice none 0 0) p2
          simpa using this
        · refine ⟨⟨none, 0, by rw [HA.out, HB.out]; rfl, by rw [HA.out]; exact Clu.nil _ _⟩, B2.setCell (by simp only; omega) _⟩
      · have hz : adB cs c = true := by unfold adB; rw [hg, hc, decide_eq_true (by omega)]; rfl
        have HA := Lib.hid (adA_yes hz)
        have HB := Lib.hid hz
        have hq : ((n : Int) == 6) = false := by rw [beq_eq_false_iff_ne]; omega
        have hE := fun (W : World) => Clu.empty W 43 rfl
        have HE := Lib.hid hE
        have HL1 : Hid (([] : List Cl).length + cs.length ≤ 2000000) := by show _ ≤ _; have := hl6; simp; omega
        have HL2 : Hid (([] ++ cs).length + [c].length ≤ 2000000) := by show _ ≤ _; have := hl6; simp; omega
        clear hg hz hc hnl hnc hl6 hE
        go_enter Try.func11, Try.ntmps11
        go_wp2_with (first
          | (go_at_call 22; (with_reducible refine (pzGood_b cs true _ _ hn HR.out HG.out).mono ?_); rintro e w1 ⟨rfl, b1⟩; obtain ⟨p0, p1, p2⟩ := heap_three b1; obtain ⟨e0, f0, s0⟩ := blk1 p0; obtain ⟨c0', c1', c2', cf, cs'⟩ := blk3 p1; obtain ⟨e2, f2, s2⟩ := blk1 p2; have z0 := (Array.getElem?_eq_some_iff.1 p0).1; have z1 := (Array.getElem?_eq_some_iff.1 p1).1; have z2 := (Array.getElem?_eq_some_iff.1 p2).1; have B1 : Below w.heap.size w w1 := (below3 w _ _ _).trans (b1.mono (by simp only [World.size_alloc]; omega)))
          | (go_at_call 23; (refine (pzClue_b c true _ HCB.out).mono ?_); rintro e w2 ⟨rfl, b2⟩; have p0 := (b2.block _ z0).trans p0; have p1 := (b2.block _ z1).trans p1; have p2 := (b2.block _ z2).trans p2; obtain ⟨e0, f0, s0⟩ := blk1 p0; obtain ⟨c0', c1', c2', cf, cs'⟩ := blk3 p1; obtain ⟨e2, f2, s2⟩ := blk1 p2; have z0 := (Array.getElem?_eq_some_iff.1 p0).1; have z1 := (Array.getElem?_eq_some_iff.1 p1).1; have z2 := (Array.getElem?_eq_some_iff.1 p2).1; have B2 := chain B1 b2))
        go_region_held3 (fun w' => w'.cell? ⟨w.heap.size, 0, none⟩ = some (.slice (some ad) n cap) ∧ w'.cell? ⟨w.heap.size + 1, 0, none⟩ = some (.int .i64 c.k) ∧ w'.cell? ⟨w.heap.size + 1, 1, none⟩ = some (.int .i64 c.a) ∧ w'.cell? ⟨w.heap.size + 1, 2, none⟩ = some (.int .i64 c.b))
          (first | with_reducible exact ⟨k0, k1, k2', k3⟩ | exact ⟨(World.cell?_setCell_far _ _ _ _ (by dsimp only; omega)).trans k0, (World.cell?_setCell_far _ _ _ _ (by dsimp only; omega)).trans k1, (World.cell?_setCell_far _ _ _ _ (by dsimp only; omega)).trans k2', (World.cell?_setCell_far _ _ _ _ (by dsimp only; omega)).trans k3⟩ | (refine ⟨?_, ?_, ?_, ?_⟩ <;> go_keep))
          (first
          | ((fail_if_success (have hck := u1)); have BW := below_drw (((Below.refl w2.heap.size w2).alloc (Nat.le_refl _) (.cells #[.int .i64 c.k, .int .i64 c.a, .int .i64 c.b] 43)).alloc (by rw [World.size_alloc]; exact Nat.le_succ _) (.cells #[] 43)); have A9 := HV.out.below ((B2.trans (BW.mono B2.size))); (with_reducible refine step_append_clusG (by with_unfolding_all rfl) _ _ (by with_unfolding_all rfl) w2.heap.size [] (.slice (some ⟨w2.heap.size + 1, 0, none⟩) 0 0) (by with_unfolding_all rfl) ((cluNil (g := w2.heap.size + 1) (w2.alloc (.cells #[.int .i64 c.k, .int .i64 c.a, .int .i64 c.b] 43)) 43 rfl (World.size_alloc _ _).symm).drw.mono (by rw [World.size_alloc]; exact Nat.le_succ _)) ad n cap cs (by with_unfolding_all rfl) A9 HL1.out BW.size ?_); intro v1 w6 u1 b1 g1; have rc := (((cluOne w2 c 43 rfl rfl).alloc' (.cells #[] 43)).drw.kp g1 (fun q hq e => by have h1 : some w2.heap.size = some q := hq; have h2 : some (w2.heap.size + 1) = some q := e; simp only [Option.some.injEq] at h1 h2; omega)).rd; have b6 : Below w2.heap.size w2 w6 := Below.trans BW b1; have q2 := (b6.block _ z2).trans p2; obtain ⟨k2, kf, ks⟩ := blk1 q2; obtain ⟨k0, kf0, ks0⟩ := blk1 ((b6.block _ z0).trans p0); obtain ⟨k1, k2', k3, kf1, ks1⟩ := blk3 ((b6.block _ z1).trans p1))
          | ((fail_if_success (have hck := u1)); have BW := below_drw (((Below.refl w2.heap.size w2).alloc (Nat.le_refl _) (.cells #[] 43)).alloc (by rw [World.size_alloc]; exact Nat.le_succ _) (.cells #[.int .i64 c.k, .int .i64 c.a, .int .i64 c.b] 43)); have A9 := HV.out.below ((B2.trans (BW.mono B2.size))); (with_reducible refine step_append_clusG (by with_unfolding_all rfl) _ _ (by with_unfolding_all rfl) w2.heap.size [] (.slice (some ⟨w2.heap.size, 0, none⟩) 0 0) (by with_unfolding_all rfl) (((cluNil w2 43 rfl rfl).alloc' (.cells #[.int .i64 c.k, .int .i64 c.a, .int .i64 c.b] 43)).drw) ad n cap cs (by with_unfolding_all rfl) A9 HL1.out BW.size ?_); intro v1 w6 u1 b1 g1; have rc := ((cluOne (g := w2.heap.size + 1) (w2.alloc (.cells #[] 43)) c 43 rfl (World.size_alloc _ _).symm).drw.kp g1 (fun q hq e => by have h1 : some (w2.heap.size + 1) = some q := hq; have h2 : some w2.heap.size = some q := e; simp only [Option.some.injEq] at h1 h2; omega)).rd; have b6 : Below w2.heap.size w2 w6 := Below.trans BW b1; have q2 := (b6.block _ z2).trans p2; obtain ⟨k2, kf, ks⟩ := blk1 q2; obtain ⟨k0, kf0, ks0⟩ := blk1 ((b6.block _ z0).trans p0); obtain ⟨k1, k2', k3, kf1, ks1⟩ := blk3 ((b6.block _ z1).trans p1))
          | ((fail_if_success (have hck := u1)); have BW := below_drw ((Below.refl w2.heap.size w2).alloc (Nat.le_refl _) (.cells #[] 43)); have A9 := HV.out.below ((B2.trans (BW.mono B2.size))); (with_reducible refine step_append_clusG (by with_unfolding_all rfl) _ _ (by with_unfolding_all rfl) w2.heap.size [] (.slice (some ⟨w2.heap.size, 0, none⟩) 0 0) (by with_unfolding_all rfl) ((cluNil w2 43 rfl rfl).drw) ad n cap cs (by with_unfolding_all rfl) A9 HL1.out BW.size ?_); intro v1 w6 u1 b1 g1; have b6 : Below w2.heap.size w2 w6 := Below.trans BW b1; have q2 := (b6.block _ z2).trans p2; obtain ⟨k2, kf, ks⟩ := blk1 q2; obtain ⟨k0, kf0, ks0⟩ := blk1 ((b6.block _ z0).trans p0); obtain ⟨k1, k2', k3, kf1, ks1⟩ := blk3 ((b6.block _ z1).trans p1))
          | (have hck := rc; clear hck; (with_reducible refine step_append_clusG (by with_unfolding_all rfl) _ _ (by with_unfolding_all rfl) w2.heap.size ([] ++ cs) v1 (by with_unfolding_all rfl) u1 _ 1 1 [c] (by with_unfolding_all rfl) rc HL2.out b6.size ?_); intro v2 w7 u2 b7 g7; have BB : Below w2.heap.size w2 w7 := b6.trans b7; have q2 := (BB.block _ z2).trans p2; obtain ⟨k2, kf, ks⟩ := blk1 q2; obtain ⟨k0, kf0, ks0⟩ := blk1 ((BB.block _ z0).trans p0); obtain ⟨k1, k2', k3, kf1, ks1⟩ := blk3 ((BB.block _ z1).trans p1); have kl := (Array.getElem?_eq_some_iff.1 q2).1; have i6 : Clu w2.heap.size (cs ++ [c]) v2 w7 := (by simpa using u2); obtain ⟨a6, n6, hv⟩ := i6.val; obtain ⟨m6, hm6⟩ : ∃ m, (cs ++ [c]).length = m := ⟨_, rfl⟩; rw [hm6] at hv; subst hv; have HM6 := Lib.hid hm6; have I6 := Lib.hid i6; have BB6 := Lib.hid BB; have Q2 := Lib.hid q2; clear hm6 i6 BB A9 q2 u2)
          | (have hck := u1; clear hck; (with_reducible refine step_append_clusG (by with_unfolding_all rfl) _ _ (by with_unfolding_all rfl) w2.heap.size ([] ++ cs) v1 (by with_unfolding_all rfl) (u1.alloc' (.cells #[.int .i64 c.k, .int .i64 c.a, .int .i64 c.b] 43)) ⟨w6.heap.size, 0, none⟩ 1 1 [c] (by with_unfolding_all rfl) ((cluOne w6 c 43 rfl rfl).rd) HL2.out (by rw [World.size_alloc]; have := b6.size; omega) ?_); intro v2 w7 u2 b7' g7; have b7 : Below w2.heap.size w6 w7 := Below.trans ((Below.refl _ _).alloc b6.size _) b7'; have BB : Below w2.heap.size w2 w7 := b6.trans b7; have q2 := (BB.block _ z2).trans p2; obtain ⟨k2, kf, ks⟩ := blk1 q2; obtain ⟨k0, kf0, ks0⟩ := blk1 ((BB.block _ z0).trans p0); obtain ⟨k1, k2', k3, kf1, ks1⟩ := blk3 ((BB.block _ z1).trans p1); have kl := (Array.getElem?_eq_some_iff.1 q2).1; have i6 : Clu w2.heap.size (cs ++ [c]) v2 w7 := (by simpa using u2); obtain ⟨a6, n6, hv⟩ := i6.val; obtain ⟨m6, hm6⟩ : ∃ m, (cs ++ [c]).length = m := ⟨_, rfl⟩; rw [hm6] at hv; subst hv; have HM6 := Lib.hid hm6; have I6 := Lib.hid i6; have BB6 := Lib.hid BB; have Q2 := Lib.hid q2; clear hm6 i6 BB A9 q2 u2))
        all_goals
          go_wp2
          refine bodyPost_ret (results_row_tmp rfl _ _ (w.heap.size + 1 + 1) 39 #[.slice a6 m6 n6] (0, 0) _ rfl ?_ Try.underlying39 rfl (by kernel_rfl)) rfl ?_
          · have := heap_setCell_same w7 (w.heap.size + 1 + 1) 0 _ _ (.slice a6 m6 n6) Q2.out
            simpa using this
          · refine ⟨⟨a6, n6, by rw [HA.out, HB.out, HM6.out]; rfl, ?_⟩, (B2.trans (BB6.out.mono B2.size)).setCell (by simp only; omega) _⟩
            rw [HA.out, HM6.out]
            exact (I6.out.low z2 _ _).mono B2.size
end Go.Proofs.Ytkdnplcaghnfhaa
