/-
  The law of AddClue.
-/
import Derived.Test.YtkdnplcaghnfhaaPzAdd
import Derived.Deep.Cut
import Derived.Deep.CutRange
namespace Go.Proofs.Ytkdnplcaghnfhaa
open Go.RowKit Go.Deep
set_option maxRecDepth 100000
theorem gkeepA {w w1 : World} {row : Option Nat} {b : Nat} {x : Value} (h : b < w.heap.size) (c0 : w.cell? ⟨b, 0, none⟩ = some x) (g : w.grownBy w1 row) (hne : row ≠ some b) : w1.cell? ⟨b, 0, none⟩ = some x ∧ b < w1.heap.size :=
  ⟨g.cell c0 (fun e => hne e.symm), by have := g.size; omega⟩
theorem keepA {w w1 : World} {b : Nat} {x : Value} (h : b < w.heap.size) (c0 : w.cell? ⟨b, 0, none⟩ = some x) (k : Below w.heap.size w w1) : w1.cell? ⟨b, 0, none⟩ = some x ∧ b < w1.heap.size :=
  ⟨(k.cell (p := ⟨b, 0, none⟩) h).trans c0, by have := k.size; omega⟩
/-- A box that holds a puzzle's clues, in memory of the call's own. -/
structure PBox (B : Nat) (rs : List Cl) (k : Nat) (a : Option Addr) (p : Nat) (w : World) : Prop where
  cell : w.cell? ⟨k, 0, none⟩ = some (.slice a rs.length p)
  lt : k < w.heap.size
  low : B ≤ k
  row : Clu B rs (.slice a rs.length p) w
  ne : ∀ q, (Value.slice a rs.length p).ownBlock = some q → q ≠ k ∧ q < w.heap.size
theorem PBox.below {B : Nat} {rs : List Cl} {k : Nat} {a : Option Addr} {p : Nat} {w w' : World} (h : PBox B rs k a p w) (b : Below w.heap.size w w') : PBox B rs k a p w' :=
  ⟨(keepA h.lt h.cell b).1, (keepA h.lt h.cell b).2, h.low, h.row.below b, fun q hq => ⟨(h.ne q hq).1, by have := (h.ne q hq).2; have := b.size; omega⟩⟩
theorem PBox.kp {B : Nat} {rs : List Cl} {k : Nat} {a : Option Addr} {p : Nat} {w w' : World} {row : Option Nat} (h : PBox B rs k a p w) (g : w.grownBy w' row) (h1 : row ≠ some k) (h2 : ∀ q, (Value.slice a rs.length p).ownBlock = some q → row ≠ some q) : PBox B rs k a p w' :=
  ⟨(gkeepA h.lt h.cell g h1).1, (gkeepA h.lt h.cell g h1).2, h.low, h.row.kp g h2, fun q hq => ⟨(h.ne q hq).1, by have := (h.ne q hq).2; have := g.size; omega⟩⟩
theorem PBox.made {B : Nat} {rs : List Cl} {a : Option Addr} {p : Nat} {w : World} {B' : Nat} (h : Clu B' rs (.slice a rs.length p) w) (hB : B ≤ B') (hs : B ≤ w.heap.size) (T : TypeId) : PBox B rs w.heap.size a p (w.alloc (.cells #[.slice a rs.length p] T)) := by
  have hb := Blk.new w #[.slice a rs.length p] T
  exact ⟨by rw [hb.cell]; rfl, hb.lt, hs, (h.alloc' _).mono hB, fun q hq => by have := (h.own_lt q hq).2; exact ⟨by omega, by rw [World.size_alloc]; omega⟩⟩
theorem lt_of_heapA {w : World} {b : Nat} {o : Obj} (h : w.heap[b]? = some o) : b < w.heap.size := (Array.getElem?_eq_some_iff.1 h).1
theorem zNew {Y W : World} {o : Obj} (b : Below (Y.alloc o).heap.size (Y.alloc o) W) : W.heap[Y.heap.size]? = some o := by
  rw [b.block _ (by rw [World.size_alloc]; omega)]; exact (MapKept.heap_alloc _ _).1
theorem zNewD {Y W : World} {o : Obj} (b : Below (Y.alloc o).drew.heap.size (Y.alloc o).drew W) : W.heap[Y.heap.size]? = some o := by
  rw [b.block _ (by show _ < (Y.alloc o).heap.size; rw [World.size_alloc]; omega)]; exact (MapKept.heap_alloc Y _).1
theorem PBox.put {B : Nat} {rs : List Cl} {a : Option Addr} {p k : Nat} {w : World} {B' : Nat} {x : Value} {T : TypeId} (h : Clu B' rs (.slice a rs.length p) w) (hk : w.heap[k]? = some (.cells #[x] T)) (hB : B ≤ k) (hkB : k < B') : PBox B rs k a p (w.setCell ⟨k, 0, none⟩ (.slice a rs.length p)) := by
  have h1 := heap_setCell_same w k 0 _ _ (.slice a rs.length p) hk
  exact ⟨by rw [Lib.cell_of_heap h1]; rfl, lt_of_heapA h1, hB, (h.low hkB _ _).mono (by omega), fun q hq => by have := h.own_lt q hq; exact ⟨by omega, by simpa [World.setCell] using this.2⟩⟩
set_option maxHeartbeats 16000000 in
theorem FnExactAddClue_law (cs : List Cl) (v : Value) (hn : cs.length ≤ maxLen) (c : Cl) (w : World) (h : RdC cs v w) :
    Calls Try.prog 4 #[.agg #[v], .agg #[.int .i64 c.k, .int .i64 c.a, .int .i64 c.b]] w fun e w' => e = .returned (.bool true) ∧ Below w.heap.size w w' := by
  have hnm := hn
  unfold maxLen at hn
  obtain ⟨rs, hrs⟩ : ∃ rs : List Cl, adA cs c = rs := ⟨_, rfl⟩
  obtain ⟨rb, hrb⟩ : ∃ rb : Bool, adB cs c = rb := ⟨_, rfl⟩
  have hul : rs.length ≤ 1000 := by rw [← hrs]; exact adA_len cs c
  have hs1 := fun (hn : cs.length ≤ 1048576) (ad : Addr) (n cap : Nat) (W : World) (hr : RdC cs (.slice (some ad) n cap) W) => sAd_any cs c ad n cap W hn hr
  have hi1 := fun (hn : cs.length ≤ 1048576) (ad : Addr) (n cap : Nat) (W : World) (hr : RdC cs (.slice (some ad) n cap) W) => iAd_any cs c ad n cap W hn hr
  rw [hrs, hrb] at hs1 hi1
  have HS := Lib.hid hs1
  have HI := Lib.hid hi1
  obtain ⟨w0, hw0⟩ : ∃ w0, w0 = (w.alloc (.cells #[v] 33)).alloc (.cells #[.int .i64 c.k, .int .i64 c.a, .int .i64 c.b] 35) := ⟨_, rfl⟩
  have HW0 := Lib.hid hw0
  have hz0 : w0.heap.size = w.heap.size + 1 + 1 := by rw [hw0, World.size_alloc, World.size_alloc]
  have HB0 : Hid (Below w.heap.size w w0) := by show Below _ _ _; rw [hw0]; exact below2 w _ _
  have HV : Hid (∀ W, Below w0.heap.size w0 W → RdC cs v W) := fun W hW => (h.below HB0.out).below hW
  have HBX : Hid (∀ W, Below w0.heap.size w0 W → Below w0.heap.size w0 W ∧ W.cell? ⟨w.heap.size, 0, none⟩ = some v ∧ W.cell? ⟨w.heap.size + 1, 0, none⟩ = some (.int .i64 c.k) ∧ W.cell? ⟨w.heap.size + 1, 1, none⟩ = some (.int .i64 c.a) ∧ W.cell? ⟨w.heap.size + 1, 2, none⟩ = some (.int .i64 c.b)) := fun W hW => by
    have hW' := hW
    rw [hw0] at hW
    obtain ⟨p0, p1⟩ := heap_pair hW
    obtain ⟨e0, _, _⟩ := blk1 p0
    obtain ⟨e1, e2, e3, _, _⟩ := blk3 p1
    exact ⟨hW', e0, e1, e2, e3⟩
  have HTR : Hid (∀ X Y, Below w0.heap.size w0 X → Below X.heap.size X Y → Below w0.heap.size w0 Y) := fun X Y h1 h2 => h1.trans (h2.mono h1.size)
  clear h hs1 hi1 hrs hrb hw0
  go_enter Try.func4, Try.ntmps4
  go_wp2_with (go_at_call 10; rw [← HW0.out]; go_must ((with_reducible refine (szPuzzle_any cs v _ hnm (HV.out _ (Below.refl _ _))).mono ?_); rintro e w1 ⟨⟨r, rfl, hr⟩, b1⟩; obtain ⟨_, c0, c1, c2, c3⟩ := HBX.out _ b1; by_cases hr0 : r < 0))
  all_goals go_wp2_with fail
  · go_ret
    exact ⟨rfl, HB0.out.trans (b1.mono (by omega))⟩
  · have hN := hr (by omega)
    have HSN := Lib.hid (HS.out hN)
    have HIN := Lib.hid (HI.out hN)
    clear hr
    have HBB : Hid (∀ W, Below w1.heap.size w1 W → Below w1.heap.size w1 W ∧ W.cell? ⟨w.heap.size, 0, none⟩ = some v ∧ W.cell? ⟨w.heap.size + 1, 0, none⟩ = some (.int .i64 c.k) ∧ W.cell? ⟨w.heap.size + 1, 1, none⟩ = some (.int .i64 c.a) ∧ W.cell? ⟨w.heap.size + 1, 2, none⟩ = some (.int .i64 c.b)) := fun W hW => ⟨hW, (HBX.out W (b1.trans (hW.mono b1.size))).2⟩
    have HBD : Hid (Below w1.heap.size w1 w1) := Below.refl _ _
    have HVV : Hid (∀ W, Below w1.heap.size w1 W → RdC cs v W) := fun W hW => HV.out W (b1.trans (hW.mono b1.size))
    have HTT : Hid (∀ X Y, Below w1.heap.size w1 X → Below X.heap.size X Y → Below w1.heap.size w1 Y) := fun X Y h1 h2 => h1.trans (h2.mono h1.size)
    go_cut [6, 7] from 16 (fun sa sb wr => ∃ kk aa pp, sa = .pointer (some ⟨kk, 0, none⟩) ∧ sb = .bool rb ∧ Hid (PBox w1.heap.size rs kk aa pp wr ∧ Below w1.heap.size w1 wr))
    case first =>
      go_region_held3 (fun w' => Below w1.heap.size w1 w' ∧ w'.cell? ⟨w.heap.size, 0, none⟩ = some v ∧ w'.cell? ⟨w.heap.size + 1, 0, none⟩ = some (.int .i64 c.k) ∧ w'.cell? ⟨w.heap.size + 1, 1, none⟩ = some (.int .i64 c.a) ∧ w'.cell? ⟨w.heap.size + 1, 2, none⟩ = some (.int .i64 c.b))
        (first | with_reducible exact HBB.out _ b4 | with_reducible exact HBB.out _ b3 | with_reducible exact HBB.out _ b2 | with_reducible exact HBB.out _ (b4.alloc b4.size _) | exact HBB.out _ (below_drw HBD.out) | with_reducible exact HBB.out _ (below_drw (HBD.out.alloc HBD.out.size _)) | (have hq := And.left (by assumption : Below w1.heap.size w1 _ ∧ _); with_reducible exact HBB.out _ (hq.alloc hq.size _)) | (have hq := And.left (by assumption : Below w1.heap.size w1 _ ∧ _); refine HBB.out _ (hq.setCell ?_ _); first | exact y3 | exact y2 | exact HBD.out.size | exact b4.size))
        (first
        | (go_at_call 12; (have hck := b3; clear hck); (with_reducible refine (toPuzzle_any cs v _ hN (HVV.out _ (And.left (by assumption)))).mono ?_); rintro e w2 ⟨⟨g2, rfl, u2⟩, b2'⟩; have b2 := HTT.out _ _ (And.left (by assumption)) b2'; have y2 := b2.size; (first | (have zb := zNew b2'; obtain ⟨z0, zf, zs⟩ := blk1 zb; have zl := lt_of_heapA zb) | (have zb := zNewD b2'; obtain ⟨z0, zf, zs⟩ := blk1 zb; have zl := lt_of_heapA zb) | (have zb := (b2'.block _ (lt_of_heapA zb)).trans zb; obtain ⟨z0, zf, zs⟩ := blk1 zb; have zl := lt_of_heapA zb) | skip); have u3 := u2; clear b3)
        | (go_at_call 12; (with_reducible refine (toPuzzle_any cs v _ hN (HVV.out _ (And.left (by assumption)))).mono ?_); rintro e w2 ⟨⟨g2, rfl, u2⟩, b2'⟩; have b2 := HTT.out _ _ (And.left (by assumption)) b2'; have y2 := b2.size; (first | (have zb := zNew b2'; obtain ⟨z0, zf, zs⟩ := blk1 zb; have zl := lt_of_heapA zb) | (have zb := zNewD b2'; obtain ⟨z0, zf, zs⟩ := blk1 zb; have zl := lt_of_heapA zb) | (have zb := (b2'.block _ (lt_of_heapA zb)).trans zb; obtain ⟨z0, zf, zs⟩ := blk1 zb; have zl := lt_of_heapA zb) | skip); have u3 := u2)
        | (go_at_call 13; (have hck := u2; clear hck); (with_reducible refine (toClue_any c _).mono ?_); rintro e w3 ⟨rfl, b3'⟩; have b3 := HTT.out _ _ (And.left (by assumption)) b3'; have y3 := b3.size; (first | (have zb := zNew b3'; obtain ⟨z0, zf, zs⟩ := blk1 zb; have zl := lt_of_heapA zb) | (have zb := zNewD b3'; obtain ⟨z0, zf, zs⟩ := blk1 zb; have zl := lt_of_heapA zb) | (have zb := (b3'.block _ (lt_of_heapA zb)).trans zb; obtain ⟨z0, zf, zs⟩ := blk1 zb; have zl := lt_of_heapA zb) | skip); have u3 := (by first | with_reducible exact u2.below b3' | exact (u2.alloc' _).below b3' : Clu _ cs _ w3); clear b2)
        | (go_at_call 13; (with_reducible refine (toClue_any c _).mono ?_); rintro e w3 ⟨rfl, b3'⟩; have b3 := HTT.out _ _ (And.left (by assumption)) b3'; have y3 := b3.size; (first | (have zb := zNew b3'; obtain ⟨z0, zf, zs⟩ := blk1 zb; have zl := lt_of_heapA zb) | (have zb := zNewD b3'; obtain ⟨z0, zf, zs⟩ := blk1 zb; have zl := lt_of_heapA zb) | (have zb := (b3'.block _ (lt_of_heapA zb)).trans zb; obtain ⟨z0, zf, zs⟩ := blk1 zb; have zl := lt_of_heapA zb) | skip))
        | (go_at_call 11; (with_reducible refine (HSN.out _ _ _ _ (by first | with_reducible exact u3.rd | exact (u3.alloc' _).rd)).mono ?_); rintro e w4 ⟨⟨a0, p0, rfl, i4⟩, b4'⟩; have b4 := HTT.out _ _ (And.left (by assumption)) b4'; (first | (have zb := zNew b4'; obtain ⟨z0, zf, zs⟩ := blk1 zb; have zl := lt_of_heapA zb) | (have zb := zNewD b4'; obtain ⟨z0, zf, zs⟩ := blk1 zb; have zl := lt_of_heapA zb) | (have zb := (b4'.block _ (lt_of_heapA zb)).trans zb; obtain ⟨z0, zf, zs⟩ := blk1 zb; have zl := lt_of_heapA zb) | skip)))
      all_goals go_wp2_with fail
      all_goals
        go_meet
        case rel =>
          first
          | exact ⟨_, a0, p0, rfl, rfl, PBox.made (i4.mono (Nat.le_of_eq rfl)) (by first | exact y3 | exact y2 | (have := HBD.out.size; have := b4'.size; omega)) b4.size _, b4.alloc b4.size _⟩
          | exact ⟨_, a0, p0, rfl, rfl, PBox.put i4 zb (by first | exact y3 | exact y2 | exact HBD.out.size) (by first | exact b3'.size | exact b2'.size | (rw [World.size_alloc]; exact Nat.lt_succ_self _) | (have h1 := b3'.size; have h2 := b2'.size; rw [World.size_alloc] at *; omega) | omega), b4.setCell (by first | exact y3 | exact y2 | exact HBD.out.size) _⟩
    case rest =>
      obtain ⟨k6, a0, p0, rfl, rfl, H6⟩ := hcut
      have X6 := Lib.hid H6.out.1
      have BC := b1.trans (H6.out.2.mono b1.size)
      clear H6 HBB HBD HVV HTT
      obtain ⟨_, c0, c1, c2, c3⟩ := HBX.out _ BC
      go_wp2_with fail
      refine (toPuzzle_any cs v _ hN (HV.out _ BC)).mono ?_
      rintro e w2 ⟨⟨g2, rfl, u2⟩, b2⟩
      obtain ⟨w8, hw8⟩ : ∃ w8, w8 = w2.alloc (.cells #[.slice (some ⟨g2, 0, none⟩) cs.length cs.length] 39) := ⟨_, rfl⟩
      have b28 : Below w2.heap.size w2 w8 := by rw [hw8]; exact (Below.refl _ _).alloc (Nat.le_refl _) _
      have b18 := chain b2 b28
      have B8 := BC.trans (b18.mono BC.size)
      have X8' : PBox wc.heap.size cs w2.heap.size (some ⟨g2, 0, none⟩) cs.length w8 := by rw [hw8]; exact PBox.made u2 (Nat.le_refl _) b2.size _
      have X6' := Lib.hid (X6.out.below b18)
      have HM6 : Hid (k6 < wc.heap.size ∧ ∀ q, (Value.slice a0 rs.length p0).ownBlock = some q → q < wc.heap.size) := ⟨X6.out.lt, fun q hq => (X6.out.ne q hq).2⟩
      obtain ⟨k8, hk8⟩ : ∃ k8, k8 = w2.heap.size := ⟨_, rfl⟩
      rw [← hk8] at X8'
      have X8 := Lib.hid X8'
      have HW8 := Lib.hid hw8
      have HK8 := Lib.hid hk8
      clear X8' hw8 hk8 c0 c1 c2 c3 X6 b2 b28 b18
      go_wp2_with (rw [← HW8.out])
      try rw [← HW8.out]
      try rw [← HK8.out]
      have HBB : Hid (∀ W, Below w8.heap.size w8 W → Below w8.heap.size w8 W ∧ W.cell? ⟨k8, 0, none⟩ = some (.slice (some ⟨g2, 0, none⟩) cs.length cs.length) ∧ W.cell? ⟨w.heap.size + 1, 0, none⟩ = some (.int .i64 c.k) ∧ W.cell? ⟨w.heap.size + 1, 1, none⟩ = some (.int .i64 c.a) ∧ W.cell? ⟨w.heap.size + 1, 2, none⟩ = some (.int .i64 c.b)) := fun W hW => ⟨hW, ⟨(X8.out.below hW).cell, (HBX.out W (B8.trans (hW.mono B8.size))).2.2⟩⟩
      have HBD : Hid (Below w8.heap.size w8 w8) := Below.refl _ _
      have HVV : Hid (∀ W, Below w8.heap.size w8 W → RdC cs v W) := fun W hW => HV.out W (B8.trans (hW.mono B8.size))
      have HTT : Hid (∀ X Y, Below w8.heap.size w8 X → Below X.heap.size X Y → Below w8.heap.size w8 Y) := fun X Y h1 h2 => h1.trans (h2.mono h1.size)
      go_cut [9, 10] from 16 (fun sa sb wr => ∃ kk aa pp, sa = .pointer (some ⟨kk, 0, none⟩) ∧ sb = .bool rb ∧ Hid (PBox w8.heap.size rs kk aa pp wr ∧ Below w8.heap.size w8 wr))
      case first =>
        go_region_held3 (fun w' => Below w8.heap.size w8 w' ∧ w'.cell? ⟨k8, 0, none⟩ = some (.slice (some ⟨g2, 0, none⟩) cs.length cs.length) ∧ w'.cell? ⟨w.heap.size + 1, 0, none⟩ = some (.int .i64 c.k) ∧ w'.cell? ⟨w.heap.size + 1, 1, none⟩ = some (.int .i64 c.a) ∧ w'.cell? ⟨w.heap.size + 1, 2, none⟩ = some (.int .i64 c.b))
          (first | with_reducible exact HBB.out _ b4 | with_reducible exact HBB.out _ b3 | with_reducible exact HBB.out _ b2 | with_reducible exact HBB.out _ (b4.alloc b4.size _) | exact HBB.out _ (below_drw HBD.out) | with_reducible exact HBB.out _ (below_drw (HBD.out.alloc HBD.out.size _)) | (have hq := And.left (by assumption : Below w8.heap.size w8 _ ∧ _); with_reducible exact HBB.out _ (hq.alloc hq.size _)) | (have hq := And.left (by assumption : Below w8.heap.size w8 _ ∧ _); refine HBB.out _ (hq.setCell ?_ _); first | exact y3 | exact y2 | exact HBD.out.size | exact b4.size))
          (first
          | (go_at_call 13; (with_reducible refine (toClue_any c _).mono ?_); rintro e w3 ⟨rfl, b3'⟩; have b3 := HTT.out _ _ (And.left (by assumption)) b3'; have y3 := b3.size; (first | (have zb := zNew b3'; obtain ⟨z0, zf, zs⟩ := blk1 zb; have zl := lt_of_heapA zb) | (have zb := zNewD b3'; obtain ⟨z0, zf, zs⟩ := blk1 zb; have zl := lt_of_heapA zb) | (have zb := (b3'.block _ (lt_of_heapA zb)).trans zb; obtain ⟨z0, zf, zs⟩ := blk1 zb; have zl := lt_of_heapA zb) | skip))
          | (go_at_call 14; (with_reducible refine (HIN.out _ _ _ _ (X8.out.row.apart (.inl (Nat.le_refl _)) (And.left (by assumption))).rd).mono ?_); rintro e w4 ⟨⟨a0, p0, rfl, i4⟩, b4'⟩; have b4 := HTT.out _ _ (And.left (by assumption)) b4'; (first | (have zb := zNew b4'; obtain ⟨z0, zf, zs⟩ := blk1 zb; have zl := lt_of_heapA zb) | (have zb := zNewD b4'; obtain ⟨z0, zf, zs⟩ := blk1 zb; have zl := lt_of_heapA zb) | (have zb := (b4'.block _ (lt_of_heapA zb)).trans zb; obtain ⟨z0, zf, zs⟩ := blk1 zb; have zl := lt_of_heapA zb) | skip)))
        all_goals go_wp2_with fail
        all_goals
          go_meet
          case rel =>
            first
            | exact ⟨_, a0, p0, rfl, rfl, PBox.made (i4.mono (Nat.le_of_eq rfl)) (by first | exact y3 | exact y2 | (have := HBD.out.size; have := b4'.size; omega)) b4.size _, b4.alloc b4.size _⟩
            | exact ⟨_, a0, p0, rfl, rfl, PBox.put i4 zb (by first | exact y3 | exact y2 | exact HBD.out.size) (by first | exact b3'.size | exact b2'.size | (rw [World.size_alloc]; exact Nat.lt_succ_self _) | (have h1 := b3'.size; have h2 := b2'.size; rw [World.size_alloc] at *; omega) | omega), b4.setCell (by first | exact y3 | exact y2 | exact HBD.out.size) _⟩
      case rest =>
        obtain ⟨k9, a1, p1, rfl, rfl, H9⟩ := hcut
        have X9 := Lib.hid H9.out.1
        have b8c := H9.out.2
        have hz9 := b8c.size
        have X8c := X8.out.below b8c
        have X6c := X6'.out.below b8c
        have BD := B8.trans (b8c.mono B8.size)
        have e9 := X9.out.cell
        have e6 := X6c.cell
        clear H9 HBB HBD HVV HTT
        go_wp2_with fail
        refine (eqPuzzle_yes rs _ _ _ (by omega) X9.out.row.rd X6c.row.rd).mono ?_
        rintro e wA ⟨rfl, bA⟩
        have X9a := X9.out.below bA
        have X8a := X8c.below bA
        have X6a := X6c.below bA
        have BA := BD.trans (bA.mono BD.size)
        have HX8 := Lib.hid X8a
        clear e9 e6 X8c X6c
        have e8 := X8a.cell
        obtain ⟨_, e0, _, _, _⟩ := HBX.out _ BA
        go_wp2_with fail
        go_cut [51] from 16 (fun sq wr => sq = .bool false ∧ Hid (Below wA.heap.size wA wr))
        case first =>
          go_region_held3 (fun w' => w'.cell? ⟨k8, 0, none⟩ = some (.slice (some ⟨g2, 0, none⟩) cs.length cs.length) ∧ w'.cell? ⟨w.heap.size, 0, none⟩ = some v)
            (first | go_keep | exact ⟨k0, l0⟩)
            (first
            | (go_at_call 12; (with_reducible refine (toPuzzle_any cs v _ hN (HV.out _ (below_drw BA))).mono ?_); rintro e wB ⟨⟨gB, rfl, uB⟩, bB'⟩; have bB : Below wA.heap.size wA wB := chain (w := wA) (by go_grown) bB'; have k0 := (HX8.out.below bB).cell; have l0 := (HBX.out _ (BA.trans (bB.mono BA.size))).2.1)
            | (go_at_call 15; (with_reducible refine (eqPuzzle_yes cs _ _ _ hN (HX8.out.below bB).row.rd uB.rd).mono ?_); rintro e wE ⟨rfl, bE'⟩; have bE : Below wA.heap.size wA wE := chain bB bE'; have k0 := (HX8.out.below bE).cell; have l0 := (HBX.out _ (BA.trans (bE.mono BA.size))).2.1))
          all_goals go_wp2_with fail
          all_goals
            go_meet
            case rel => exact ⟨rfl, bE⟩
        case rest =>
          obtain ⟨rfl, HE⟩ := hcut
          have bE := HE.out
          have X9e := X9a.below bE
          have X8e := X8a.below bE
          have X6e := X6a.below bE
          have BE := BA.trans (bE.mono BA.size)
          clear HE e8 e0 HX8 X9a X8a X6a
          have e8 := X8e.cell
          have e9 := X9e.cell
          have e6 := X6e.cell
          have hg2 : k6 < g2 ∧ g2 < w8.heap.size ∧ w0.heap.size ≤ g2 := by
            have h1 := X8.out.row.own_lt g2 rfl
            have h2 := HM6.out.1
            have h3 := BC.size
            exact ⟨by omega, h1.2, by omega⟩
          have hk89 : w8.heap.size ≤ k9 := X9.out.low
          go_wp2_with fail
          refine (markPz_any _ cs _ _ hN X8e.row).mono ?_
          rintro e wf ⟨rfl, _, mf⟩
          have hof : (Value.slice (some ⟨g2, 0, none⟩) cs.length cs.length).ownBlock = some g2 := rfl
          rw [hof] at mf
          have BF := BE.grown mf BE.size (fun q hq => by simp only [Option.some.injEq] at hq; omega)
          have X9f := X9e.kp mf (fun e => by simp only [Option.some.injEq] at e; omega) (fun q hq e => by have := X9.out.row.own_lt q hq; simp only [Option.some.injEq] at e; omega)
          have X6f := X6e.kp mf (fun e => by simp only [Option.some.injEq] at e; omega) (fun q hq e => by have h1 := HM6.out.2 q hq; have h2 := X8.out.row.own_lt g2 rfl; simp only [Option.some.injEq] at e; omega)
          clear e8 e9 e6
          have e9 := X9f.cell
          have e6 := X6f.cell
          have hkn : ¬ (1 : Int) + 3 * (cs.length : Int) < 0 := by omega
          go_wp2_with fail
          refine (eqPuzzle_yes rs _ _ _ (by omega) X9f.row.rd X6f.row.rd).mono ?_
          rintro e wg ⟨rfl, bg⟩
          have X9g := X9f.below bg
          have X6g := X6f.below bg
          have BG := BF.trans (bg.mono BF.size)
          clear e9 e6
          have e9 := X9g.cell
          have e6 := X6g.cell
          go_wp2_with fail
          refine (markPz_any _ rs _ _ (by omega) X9g.row).mono ?_
          rintro e wh ⟨rfl, hd, mh⟩
          have hoh : ∀ q, (Value.slice a1 rs.length p1).ownBlock = some q → w8.heap.size ≤ q := fun q hq => (X9.out.row.own_lt q hq).1
          have BH := BG.grown mh BG.size (fun q hq => by have := hoh q hq; have := B8.size; omega)
          have X6h := X6g.kp mh (fun e => by have := hoh _ e; omega) (fun q hq e => by have h1 := HM6.out.2 q hq; have h2 := hoh _ e; have h3 := X8.out.low; have h4 := X8.out.lt; omega)
          have e9h := (gkeepA X9g.lt X9g.cell mh (fun e => (X9g.ne _ e).1 rfl)).1
          have l9h := (gkeepA X9g.lt X9g.cell mh (fun e => (X9g.ne _ e).1 rfl)).2
          clear e9 e6
          have hkm : ¬ (1 : Int) + 3 * (rs.length : Int) < 0 := by omega
          go_wp2_with fail
          refine (heldPz_any _ rs.length _ _ (by omega) hd).mono ?_
          rintro e wq ⟨rfl, bq⟩
          have BQ := BH.trans (bq.mono BH.size)
          have X6q := Lib.hid (X6h.below bq)
          have hdq := Lib.hid (hd.below bq)
          have e9q := keepA l9h e9h bq
          have E9 := Lib.hid e9q
          clear e9h l9h e9q
          obtain ⟨_, c0, c1, c2, c3⟩ := HBX.out _ BQ
          go_wp2_with fail
          have HBB : Hid (∀ W, Below wq.heap.size wq W → Below wq.heap.size wq W ∧ W.cell? ⟨w.heap.size, 0, none⟩ = some v ∧ W.cell? ⟨w.heap.size + 1, 0, none⟩ = some (.int .i64 c.k) ∧ W.cell? ⟨w.heap.size + 1, 1, none⟩ = some (.int .i64 c.a) ∧ W.cell? ⟨w.heap.size + 1, 2, none⟩ = some (.int .i64 c.b)) := fun W hW => ⟨hW, (HBX.out W (BQ.trans (hW.mono BQ.size))).2⟩
          have HBD : Hid (Below wq.heap.size wq wq) := Below.refl _ _
          have HVV : Hid (∀ W, Below wq.heap.size wq W → RdC cs v W) := fun W hW => HV.out W (BQ.trans (hW.mono BQ.size))
          have HTT : Hid (∀ X Y, Below wq.heap.size wq X → Below X.heap.size X Y → Below wq.heap.size wq Y) := fun X Y h1 h2 => h1.trans (h2.mono h1.size)
          go_cut [14, 15] from 16 (fun sa sb wr => ∃ kk aa pp, sa = .pointer (some ⟨kk, 0, none⟩) ∧ sb = .bool rb ∧ Hid (PBox wq.heap.size rs kk aa pp wr ∧ Below wq.heap.size wq wr))
          case first =>
            go_region_held3 (fun w' => Below wq.heap.size wq w' ∧ w'.cell? ⟨w.heap.size, 0, none⟩ = some v ∧ w'.cell? ⟨w.heap.size + 1, 0, none⟩ = some (.int .i64 c.k) ∧ w'.cell? ⟨w.heap.size + 1, 1, none⟩ = some (.int .i64 c.a) ∧ w'.cell? ⟨w.heap.size + 1, 2, none⟩ = some (.int .i64 c.b))
              (first | with_reducible exact HBB.out _ b4 | with_reducible exact HBB.out _ b3 | with_reducible exact HBB.out _ b2 | with_reducible exact HBB.out _ (b4.alloc b4.size _) | exact HBB.out _ (below_drw HBD.out) | with_reducible exact HBB.out _ (below_drw (HBD.out.alloc HBD.out.size _)) | (have hq := And.left (by assumption : Below wq.heap.size wq _ ∧ _); with_reducible exact HBB.out _ (hq.alloc hq.size _)) | (have hq := And.left (by assumption : Below wq.heap.size wq _ ∧ _); refine HBB.out _ (hq.setCell ?_ _); first | exact y3 | exact y2 | exact HBD.out.size | exact b4.size))
              (first
              | (go_at_call 12; (have hck := b3; clear hck); (with_reducible refine (toPuzzle_any cs v _ hN (HVV.out _ (And.left (by assumption)))).mono ?_); rintro e w2 ⟨⟨g2, rfl, u2⟩, b2'⟩; have b2 := HTT.out _ _ (And.left (by assumption)) b2'; have y2 := b2.size; (first | (have zb := zNew b2'; obtain ⟨z0, zf, zs⟩ := blk1 zb; have zl := lt_of_heapA zb) | (have zb := zNewD b2'; obtain ⟨z0, zf, zs⟩ := blk1 zb; have zl := lt_of_heapA zb) | (have zb := (b2'.block _ (lt_of_heapA zb)).trans zb; obtain ⟨z0, zf, zs⟩ := blk1 zb; have zl := lt_of_heapA zb) | skip); have u3 := u2; clear b3)
              | (go_at_call 12; (with_reducible refine (toPuzzle_any cs v _ hN (HVV.out _ (And.left (by assumption)))).mono ?_); rintro e w2 ⟨⟨g2, rfl, u2⟩, b2'⟩; have b2 := HTT.out _ _ (And.left (by assumption)) b2'; have y2 := b2.size; (first | (have zb := zNew b2'; obtain ⟨z0, zf, zs⟩ := blk1 zb; have zl := lt_of_heapA zb) | (have zb := zNewD b2'; obtain ⟨z0, zf, zs⟩ := blk1 zb; have zl := lt_of_heapA zb) | (have zb := (b2'.block _ (lt_of_heapA zb)).trans zb; obtain ⟨z0, zf, zs⟩ := blk1 zb; have zl := lt_of_heapA zb) | skip); have u3 := u2)
              | (go_at_call 13; (have hck := u2; clear hck); (with_reducible refine (toClue_any c _).mono ?_); rintro e w3 ⟨rfl, b3'⟩; have b3 := HTT.out _ _ (And.left (by assumption)) b3'; have y3 := b3.size; (first | (have zb := zNew b3'; obtain ⟨z0, zf, zs⟩ := blk1 zb; have zl := lt_of_heapA zb) | (have zb := zNewD b3'; obtain ⟨z0, zf, zs⟩ := blk1 zb; have zl := lt_of_heapA zb) | (have zb := (b3'.block _ (lt_of_heapA zb)).trans zb; obtain ⟨z0, zf, zs⟩ := blk1 zb; have zl := lt_of_heapA zb) | skip); have u3 := (by first | with_reducible exact u2.below b3' | exact (u2.alloc' _).below b3' : Clu _ cs _ w3); clear b2)
              | (go_at_call 13; (with_reducible refine (toClue_any c _).mono ?_); rintro e w3 ⟨rfl, b3'⟩; have b3 := HTT.out _ _ (And.left (by assumption)) b3'; have y3 := b3.size; (first | (have zb := zNew b3'; obtain ⟨z0, zf, zs⟩ := blk1 zb; have zl := lt_of_heapA zb) | (have zb := zNewD b3'; obtain ⟨z0, zf, zs⟩ := blk1 zb; have zl := lt_of_heapA zb) | (have zb := (b3'.block _ (lt_of_heapA zb)).trans zb; obtain ⟨z0, zf, zs⟩ := blk1 zb; have zl := lt_of_heapA zb) | skip))
              | (go_at_call 14; (with_reducible refine (HIN.out _ _ _ _ (by first | with_reducible exact u3.rd | exact (u3.alloc' _).rd)).mono ?_); rintro e w4 ⟨⟨a0, p0, rfl, i4⟩, b4'⟩; have b4 := HTT.out _ _ (And.left (by assumption)) b4'; (first | (have zb := zNew b4'; obtain ⟨z0, zf, zs⟩ := blk1 zb; have zl := lt_of_heapA zb) | (have zb := zNewD b4'; obtain ⟨z0, zf, zs⟩ := blk1 zb; have zl := lt_of_heapA zb) | (have zb := (b4'.block _ (lt_of_heapA zb)).trans zb; obtain ⟨z0, zf, zs⟩ := blk1 zb; have zl := lt_of_heapA zb) | skip)))
            all_goals go_wp2_with fail
            all_goals
              go_meet
              case rel =>
                first
                | exact ⟨_, a0, p0, rfl, rfl, PBox.made (i4.mono (Nat.le_of_eq rfl)) (by first | exact y3 | exact y2 | (have := HBD.out.size; have := b4'.size; omega)) b4.size _, b4.alloc b4.size _⟩
                | exact ⟨_, a0, p0, rfl, rfl, PBox.put i4 zb (by first | exact y3 | exact y2 | exact HBD.out.size) (by first | exact b3'.size | exact b2'.size | (rw [World.size_alloc]; exact Nat.lt_succ_self _) | (have h1 := b3'.size; have h2 := b2'.size; rw [World.size_alloc] at *; omega) | omega), b4.setCell (by first | exact y3 | exact y2 | exact HBD.out.size) _⟩
          case rest =>
            obtain ⟨kz, az, pz, rfl, rfl, HZ⟩ := hcut
            have XZ := HZ.out.1
            have bz := HZ.out.2
            have X6z := X6q.out.below bz
            have hdz := hdq.out.below bz
            have e9 := keepA E9.out.2 E9.out.1 bz
            have BZ := BQ.trans (bz.mono BQ.size)
            have ez := XZ.cell
            have e6 := X6z.cell
            go_wp2_with fail
            refine (eqPuzzle_yes rs _ _ _ (by omega) XZ.row.rd X6z.row.rd).mono ?_
            rintro e wy ⟨rfl, by'⟩
            have e9y := (keepA e9.2 e9.1 by').1
            have BY := BZ.trans (by'.mono BZ.size)
            go_wp2_with fail
            refine (heldPz_any _ rs.length _ _ (by omega) (hdz.below by')).mono ?_
            rintro e wx ⟨rfl, bx⟩
            go_wp2_with fail
            go_ret
            exact ⟨rfl, HB0.out.trans ((BY.trans (bx.mono BY.size)).mono (by omega))⟩
end Go.Proofs.Ytkdnplcaghnfhaa
