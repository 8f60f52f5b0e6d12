/-
  The law of MakePuzzle.
-/
import Derived.Test.YtakckgbkfnogbabDoorPzMk2
import Derived.Test.YtakckgbkfnogbabDoorPzMark
namespace Go.Proofs.YtakckgbkfnogbabDoor
open Go.RowKit Go.Deep
set_option maxRecDepth 100000

theorem box1_kept {w w1 : World} {x : Value} {T : TypeId} (b1 : Below (w.alloc (.cells #[x] T)).heap.size (w.alloc (.cells #[x] T)) w1) : w1.cell? ⟨w.heap.size, 0, none⟩ = some x ∧ w.heap.size < w1.heap.size :=
  ⟨(blk1 (box_at w _ b1)).1, box_lt w _ b1⟩
theorem keep1 {w w1 : World} {b : Nat} {x : Value} (h : b < w.heap.size) (c0 : w.cell? ⟨b, 0, none⟩ = some x) (k : Below w.heap.size w w1) : w1.cell? ⟨b, 0, none⟩ = some x ∧ b < w1.heap.size :=
  ⟨(k.cell (p := ⟨b, 0, none⟩) h).trans c0, by have := k.size; omega⟩

theorem gkeep {w w1 : World} {row : Option Nat} {b : Nat} {x : Value} (h : b < w.heap.size) (c0 : w.cell? ⟨b, 0, none⟩ = some x) (g : w.grownBy w1 row) (hne : row ≠ some b) : w1.cell? ⟨b, 0, none⟩ = some x ∧ b < w1.heap.size :=
  ⟨g.cell c0 (fun e => hne e.symm), by have := g.size; omega⟩
theorem Clu.rdv {B : Nat} {cs : List Cl} {v : Value} {w : World} (h : Clu B cs v w) : RdC cs v w := h.rd

set_option maxHeartbeats 16000000 in
theorem FnExactMakePuzzle_law (s : ByteArray) (hs : s.size ≤ maxLen) (p : Int) (_hp : (Lit.int .i64 p).wf = true) (q : Int) (_hq : (Lit.int .i64 q).wf = true) (w : World) :
    Calls Tryd.prog 5 #[.string s, .int .i64 p, .int .i64 q] w fun e w' => e = .returned (.bool true) ∧ Below w.heap.size w w' := by
  have hnm := hs
  unfold maxLen at hs
  have hs1 : ∀ (W : World), Calls Tryd.prog 17 #[.string s, .int .i64 p, .int .i64 q] W fun e w' => (∃ a c, e = .returned (.tuple #[.agg #[.slice a (mkP s.data.toList p q).length c], .bool (mkB s.data.toList p q)]) ∧ Clu W.heap.size (mkP s.data.toList p q) (.slice a (mkP s.data.toList p q).length c) w') ∧ Below W.heap.size W w' := fun W => sMk_any s p q W hnm
  have hi1 : ∀ (W : World), Calls Tryd.prog 18 #[.string s, .int .i64 p, .int .i64 q] W fun e w' => (∃ a c, e = .returned (.tuple #[.agg #[.slice a (mkP s.data.toList p q).length c], .bool (mkB s.data.toList p q)]) ∧ Clu W.heap.size (mkP s.data.toList p q) (.slice a (mkP s.data.toList p q).length c) w') ∧ Below W.heap.size W w' := fun W => iMk_any s p q W hnm
  have hul : (mkP s.data.toList p q).length ≤ 1000 := mkP_len _ _ _
  obtain ⟨rs, hrs⟩ : ∃ rs : List Cl, mkP s.data.toList p q = rs := ⟨_, rfl⟩
  obtain ⟨rb, hrb⟩ : ∃ rb : Bool, mkB s.data.toList p q = rb := ⟨_, rfl⟩
  rw [hrs] at hs1 hi1 hul
  rw [hrb] at hs1 hi1
  have HS := Lib.hid hs1
  have HI := Lib.hid hi1
  clear hs1 hi1 hrs hrb
  by_cases hz : (1048576 : Int) < (s.size : Int)
  · go_enter Tryd.func5, Tryd.ntmps5
    go_wp2
    go_ret
    exact ⟨rfl, Below.refl _ _⟩
  · go_enter Tryd.func5, Tryd.ntmps5
    go_wp2_with fail
    refine (HS.out _).mono ?_
    rintro e w3 ⟨⟨a0, p0, rfl, i3⟩, b3⟩
    have i3' := i3.below ((Below.refl w3.heap.size w3).alloc (Nat.le_refl _) (.cells #[.slice a0 rs.length p0] 30))
    have B3' : Below w.heap.size w (w3.alloc (.cells #[.slice a0 rs.length p0] 30)) := b3.alloc b3.size _
    go_wp2_with fail
    refine (HI.out _).mono ?_
    rintro e w6 ⟨⟨a1, p1, rfl, j6⟩, b6⟩
    obtain ⟨v0, vz⟩ := box1_kept b6
    have B6 := chain B3' b6
    have i6 := i3'.below b6
    have b67 : Below w6.heap.size w6 (w6.alloc (.cells #[.slice a1 rs.length p1] 30)) := (Below.refl _ _).alloc (Nat.le_refl _) _
    obtain ⟨v0, vz⟩ := keep1 vz v0 b67
    have j7 := j6.below b67
    have i7 := i6.below b67
    have B7 := chain B6 b67
    go_wp2_with fail
    refine (eqPuzzle_yes rs _ _ _ (by omega) j7.rd i7.rd).mono ?_
    rintro e w8 ⟨rfl, b8⟩
    obtain ⟨q0, qz⟩ := box1_kept (w := w6) b8
    obtain ⟨v0, vz⟩ := keep1 vz v0 b8
    have j8 := j7.below b8
    have i8 := i7.below b8
    have B8 := chain B7 b8
    have hz3 : (w3.alloc (.cells #[.slice a0 rs.length p0] 30)).heap.size = w3.heap.size + 1 := World.size_alloc _ _
    have hsz36 := b6.size
    have hsz03 := b3.size
    have hB8 := b8.size
    rw [World.size_alloc] at hB8
    have hio : ∀ k, (Value.slice a0 rs.length p0).ownBlock = some k → k < w3.heap.size := fun k hk => (i3.own_lt k hk).2
    have hjo : ∀ k, (Value.slice a1 rs.length p1).ownBlock = some k → (w3.alloc (.cells #[.slice a0 rs.length p0] 30)).heap.size ≤ k ∧ k < w6.heap.size := fun k hk => j6.own_lt k hk
    have HIO := Lib.hid hio
    have HJO := Lib.hid hjo
    clear hio hjo
    go_wp2_with fail
    refine (markPz_any _ rs _ _ (by omega) j8).mono ?_
    rintro e wd ⟨rfl, hd, md⟩
    have Bd := B8.grown md B8.size (fun q hq => by have := HJO.out q hq; omega)
    have id' := i8.kp md (fun k hk e => by have h1 := HJO.out k e; have h2 := HIO.out k hk; omega)
    obtain ⟨m0, mz⟩ := gkeep vz v0 md (fun e => by have := HJO.out _ e; omega)
    obtain ⟨n0, nz⟩ := gkeep qz q0 md (fun e => by have := HJO.out _ e; omega)
    have hkm : ¬ (1 : Int) + 3 * (rs.length : Int) < 0 := by omega
    go_wp2_with fail
    refine (heldPz_any _ rs.length _ _ (by omega) hd).mono ?_
    rintro e we ⟨rfl, be⟩
    have Be := chain Bd be
    have ie := id'.below be
    have he := hd.below be
    obtain ⟨m0, mz⟩ := keep1 mz m0 be
    obtain ⟨n0, nz⟩ := keep1 nz n0 be
    go_wp2_with fail
    refine (HI.out _).mono ?_
    rintro e wg ⟨⟨a2, p2, rfl, jg⟩, bg⟩
    have Bg := chain Be bg
    have ig := ie.below bg
    have mg := he.below bg
    obtain ⟨m0, mz⟩ := keep1 mz m0 bg
    obtain ⟨n0, nz⟩ := keep1 nz n0 bg
    have bgh : Below wg.heap.size wg (wg.alloc (.cells #[.slice a2 rs.length p2] 30)) := (Below.refl _ _).alloc (Nat.le_refl _) _
    obtain ⟨m0, mz⟩ := keep1 mz m0 bgh
    obtain ⟨n0, nz⟩ := keep1 nz n0 bgh
    have Bh := chain Bg bgh
    go_wp2_with fail
    refine (eqPuzzle_yes rs _ _ _ (by omega) (jg.below bgh).rd (ig.below bgh).rd).mono ?_
    rintro e wh ⟨rfl, bh⟩
    obtain ⟨n0, nz⟩ := keep1 nz n0 bh
    go_wp2_with fail
    refine (heldPz_any _ rs.length _ _ (by omega) ((mg.below bgh).below bh)).mono ?_
    rintro e wi ⟨rfl, bi⟩
    go_wp2_with fail
    go_ret
    exact ⟨rfl, chain (chain Bh bh) bi⟩

end Go.Proofs.YtakckgbkfnogbabDoor
