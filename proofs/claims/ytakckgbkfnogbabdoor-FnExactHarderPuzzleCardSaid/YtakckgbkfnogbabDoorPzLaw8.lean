/-
  The law of HarderPuzzle.
-/
import Derived.Test.YtakckgbkfnogbabDoorPzHard
import Derived.Test.YtakckgbkfnogbabDoorPzMark
namespace Go.Proofs.YtakckgbkfnogbabDoor
open Go.RowKit Go.Deep
set_option maxRecDepth 100000

theorem box1_kept {w w1 : World} {x : Value} {T : TypeId} (b1 : Below (w.alloc (.cells #[x] T)).heap.size (w.alloc (.cells #[x] T)) w1) : w1.cell? ⟨w.heap.size, 0, none⟩ = some x ∧ w.heap.size < w1.heap.size :=
  ⟨(blk1 (box_at w _ b1)).1, box_lt w _ b1⟩
theorem keep1 {w w1 : World} {b : Nat} {x : Value} (h : b < w.heap.size) (c0 : w.cell? ⟨b, 0, none⟩ = some x) (k : Below w.heap.size w w1) : w1.cell? ⟨b, 0, none⟩ = some x ∧ b < w1.heap.size :=
  ⟨(k.cell (p := ⟨b, 0, none⟩) h).trans c0, by have := k.size; omega⟩

theorem gkeep {w w1 : World} {row : Option Nat} {b : Nat} {x : Value} (h : b < w.heap.size) (c0 : w.cell? ⟨b, 0, none⟩ = some x) (g : w.grownBy w1 row) (hne : row ≠ some b) : w1.cell? ⟨b, 0, none⟩ = some x ∧ b < w1.heap.size :=
  ⟨g.cell c0 (fun e => hne e.symm), by have := g.size; omega⟩
theorem Clu.rdv {B : Nat} {cs : List Cl} {v : Value} {w : World} (h : Clu B cs v w) : RdC cs v w := h.rd

set_option maxHeartbeats 16000000 in
theorem FnExactHarderPuzzle_law (cs : List Cl) (v : Value) (hn : cs.length ≤ maxLen) (w : World) (h : RdC cs v w) :
    Calls Tryd.prog 4 #[.agg #[v]] w fun e w' => e = .returned (.bool true) ∧ Below w.heap.size w w' := by
  have hnm := hn
  unfold maxLen at hn
  have HV := Lib.hid h
  have hs1 : cs.length ≤ 1048576 → ∀ (ad : Addr) (n c : Nat) (W : World), RdC cs (.slice (some ad) n c) W → Calls Tryd.prog 13 #[.agg #[.slice (some ad) n c]] W fun e w' => (∃ a c, e = .returned (.tuple #[.agg #[.slice a (hdA cs).length c], .bool (isA cs)]) ∧ Clu W.heap.size (hdA cs) (.slice a (hdA cs).length c) w') ∧ Below W.heap.size W w' := fun hn ad n c W hr => sHd_any cs ad n c W hn hr
  have hi1 : cs.length ≤ 1048576 → ∀ (ad : Addr) (n c : Nat) (W : World), RdC cs (.slice (some ad) n c) W → Calls Tryd.prog 14 #[.agg #[.slice (some ad) n c]] W fun e w' => (∃ a c, e = .returned (.tuple #[.agg #[.slice a (hdA cs).length c], .bool (isA cs)]) ∧ Clu W.heap.size (hdA cs) (.slice a (hdA cs).length c) w') ∧ Below W.heap.size W w' := fun hn ad n c W hr => iHd_any cs ad n c W hn hr
  have hul : (hdA cs).length ≤ 1000 := hdA_len cs
  obtain ⟨rs, hrs⟩ : ∃ rs : List Cl, hdA cs = rs := ⟨_, rfl⟩
  obtain ⟨rb, hrb⟩ : ∃ rb : Bool, isA cs = rb := ⟨_, rfl⟩
  rw [hrs] at hs1 hi1 hul
  rw [hrb] at hs1 hi1
  have HS := Lib.hid hs1
  have HI := Lib.hid hi1
  clear h hs1 hi1 hrs hrb
  go_enter Tryd.func4, Tryd.ntmps4
  go_wp2_with (go_at_call 8; go_must ((with_reducible refine (szPuzzle_any cs v _ hnm (HV.out.below (by go_grown))).mono ?_); rintro e w1 ⟨⟨r, rfl, hr⟩, b1⟩; obtain ⟨c0, hz⟩ := box1_kept b1; by_cases hr0 : r < 0))
  all_goals go_wp2_with fail
  · go_ret
    exact ⟨rfl, chain (w := w) (by go_grown) b1⟩
  · have hN := hr (by omega)
    have B1 : Below w.heap.size w w1 := chain (w := w) (by go_grown) b1
    have A1 := HV.out.below B1
    have HSN := Lib.hid (HS.out hN)
    have HIN := Lib.hid (HI.out hN)
    clear hr b1
    refine (toPuzzle_any cs v _ hN A1).mono ?_
    rintro e w2 ⟨⟨g2, rfl, u2⟩, b2⟩
    obtain ⟨d0, dz⟩ := keep1 hz c0 b2
    have B2 := chain B1 b2
    go_wp2_with fail
    refine (HSN.out _ _ _ _ u2.rd).mono ?_
    rintro e w3 ⟨⟨a0, p0, rfl, i3⟩, b3⟩
    obtain ⟨e0, ez⟩ := keep1 dz d0 b3
    have B3 := chain B2 b3
    clear c0 d0 u2
    have i3' := i3.below ((Below.refl w3.heap.size w3).alloc (Nat.le_refl _) (.cells #[.slice a0 rs.length p0] 30))
    obtain ⟨e0, ez⟩ := keep1 ez e0 (show Below w3.heap.size w3 (w3.alloc (.cells #[.slice a0 rs.length p0] 30)) from (Below.refl _ _).alloc (Nat.le_refl _) _)
    have B3' : Below w.heap.size w (w3.alloc (.cells #[.slice a0 rs.length p0] 30)) := B3.alloc B3.size _
    have A3 := HV.out.below B3'
    go_wp2_with fail
    refine (toPuzzle_any cs v _ hN A3).mono ?_
    rintro e w4 ⟨⟨g4, rfl, u4⟩, b4⟩
    obtain ⟨v0, vz⟩ := box1_kept b4
    obtain ⟨f0, fz⟩ := keep1 ez e0 b4
    have B4 := chain B3' b4
    have b45 : Below w4.heap.size w4 (w4.alloc (.cells #[.slice (some ⟨g4, 0, none⟩) cs.length cs.length] 30)) := (Below.refl _ _).alloc (Nat.le_refl _) _
    have u5 := u4.below b45
    have i4 := i3'.below b4
    have i5 := i4.below b45
    have B5 : Below w.heap.size w (w4.alloc (.cells #[.slice (some ⟨g4, 0, none⟩) cs.length cs.length] 30)) := chain B4 b45
    have hg4 := u4.own_lt g4 rfl
    go_wp2_with fail
    refine (HIN.out _ _ _ _ u5.rd).mono ?_
    rintro e w6 ⟨⟨a1, p1, rfl, j6⟩, b6⟩
    obtain ⟨x0, xz⟩ := box1_kept b6
    have b46 : Below w4.heap.size w4 w6 := chain b45 b6
    obtain ⟨y0, yz⟩ := keep1 fz f0 b46
    obtain ⟨v0, vz⟩ := keep1 vz v0 b46
    have B6 := chain B5 b6
    have u6 := u5.below b6
    have i6 := i5.below b6
    clear e0 f0
    have b67 : Below w6.heap.size w6 (w6.alloc (.cells #[.slice a1 rs.length p1] 30)) := (Below.refl _ _).alloc (Nat.le_refl _) _
    obtain ⟨x0, xz⟩ := keep1 xz x0 b67
    obtain ⟨y0, yz⟩ := keep1 yz y0 b67
    obtain ⟨v0, vz⟩ := keep1 vz v0 b67
    have j7 := j6.below b67
    have i7 := i6.below b67
    have u7 := u6.below b67
    have B7 := chain B6 b67
    go_wp2_with fail
    refine (eqPuzzle_yes rs _ _ _ (by omega) j7.rd i7.rd).mono ?_
    rintro e w8 ⟨rfl, b8⟩
    obtain ⟨q0, qz⟩ := box1_kept (w := w6) b8
    obtain ⟨x0, xz⟩ := keep1 xz x0 b8
    obtain ⟨y0, yz⟩ := keep1 yz y0 b8
    obtain ⟨v0, vz⟩ := keep1 vz v0 b8
    have j8 := j7.below b8
    have i8 := i7.below b8
    have u8 := u7.below b8
    have B8 := chain B7 b8
    have A8 := HV.out.below B8
    go_wp2_with fail
    have hz4 : (w4.alloc (.cells #[.slice (some ⟨g4, 0, none⟩) cs.length cs.length] 30)).heap.size = w4.heap.size + 1 := World.size_alloc _ _
    have hz3 : (w3.alloc (.cells #[.slice a0 rs.length p0] 30)).heap.size = w3.heap.size + 1 := World.size_alloc _ _
    have hsz34 := b4.size
    have hsz46 := b6.size
    have hsz03 := B3.size
    have hio : ∀ k, (Value.slice a0 rs.length p0).ownBlock = some k → k < w3.heap.size := fun k hk => (i3.own_lt k hk).2
    have hjo : ∀ k, (Value.slice a1 rs.length p1).ownBlock = some k → (w4.alloc (.cells #[.slice (some ⟨g4, 0, none⟩) cs.length cs.length] 30)).heap.size ≤ k ∧ k < w6.heap.size := fun k hk => j6.own_lt k hk
    have HIO := Lib.hid hio
    have HJO := Lib.hid hjo
    clear hio hjo
    go_region_held3 (fun w' => w'.cell? ⟨w4.heap.size, 0, none⟩ = some (.slice (some ⟨g4, 0, none⟩) cs.length cs.length) ∧ w'.cell? ⟨w.heap.size, 0, none⟩ = some v)
      (first | go_keep | exact ⟨k0, l0⟩)
      (first
      | (go_at_call 10; (with_reducible refine (toPuzzle_any cs v _ hN (A8.below (by go_grown))).mono ?_); rintro e w9 ⟨⟨g9, rfl, u9⟩, b9⟩; have B9 : Below w8.heap.size w8 w9 := chain (w := w8) (by go_grown) b9; obtain ⟨k0, kz⟩ := keep1 xz x0 B9; obtain ⟨l0, lz⟩ := keep1 yz y0 B9)
      | (go_at_call 12; (with_reducible refine (eqPuzzle_yes cs _ _ _ hN (u8.rd.below B9) u9.rd).mono ?_); rintro e wa ⟨rfl, ba⟩; have Ba : Below w8.heap.size w8 wa := chain B9 ba; obtain ⟨k0, kz⟩ := keep1 xz x0 Ba; obtain ⟨l0, lz⟩ := keep1 yz y0 Ba))
    all_goals
      have Bwa := chain B8 Ba
      obtain ⟨k0, kz⟩ := keep1 xz x0 Ba
      obtain ⟨l0, lz⟩ := keep1 yz y0 Ba
      obtain ⟨m0, mz⟩ := keep1 vz v0 Ba
      obtain ⟨n0, nz⟩ := keep1 qz q0 Ba
      have hBa := Ba.size
      have hB8 := b8.size
      rw [World.size_alloc] at hB8
      go_wp2_with fail
      refine (markPz_any _ cs _ _ hN (u8.below Ba)).mono ?_
      rintro e wb ⟨rfl, _, mb⟩
      have Bb := Bwa.grown mb Bwa.size (fun q hq => by simp only [Value.ownBlock, Option.some.injEq] at hq; omega)
      have jb := (j8.below Ba).kp mb (fun k hk e => by cases e; have := HJO.out g4 hk; omega)
      have ib := (i8.below Ba).kp mb (fun k hk e => by cases e; have := HIO.out g4 hk; omega)
      obtain ⟨l0, lz⟩ := gkeep lz l0 mb (fun e => by simp only [Value.ownBlock, Option.some.injEq] at e; omega)
      obtain ⟨m0, mz⟩ := gkeep mz m0 mb (fun e => by simp only [Value.ownBlock, Option.some.injEq] at e; omega)
      obtain ⟨n0, nz⟩ := gkeep nz n0 mb (fun e => by simp only [Value.ownBlock, Option.some.injEq] at e; omega)
      have hkn : ¬ (1 : Int) + 3 * (cs.length : Int) < 0 := by omega
      go_wp2_with fail
      refine (eqPuzzle_yes rs _ _ _ (by omega) jb.rd ib.rd).mono ?_
      rintro e wc ⟨rfl, bc⟩
      have Bc := chain Bb bc
      have jc := jb.below bc
      have ic := ib.below bc
      obtain ⟨l0, lz⟩ := keep1 lz l0 bc
      obtain ⟨m0, mz⟩ := keep1 mz m0 bc
      obtain ⟨n0, nz⟩ := keep1 nz n0 bc
      go_wp2_with fail
      refine (markPz_any _ rs _ _ (by omega) jc).mono ?_
      rintro e wd ⟨rfl, hd, md⟩
      have Bd := Bc.grown md Bc.size (fun q hq => by have := HJO.out q hq; omega)
      have id' := ic.kp md (fun k hk e => by have h1 := HJO.out k e; have h2 := HIO.out k hk; omega)
      obtain ⟨l0, lz⟩ := gkeep lz l0 md (fun e => by have := HJO.out _ e; omega)
      obtain ⟨m0, mz⟩ := gkeep mz m0 md (fun e => by have := HJO.out _ e; omega)
      obtain ⟨n0, nz⟩ := gkeep nz n0 md (fun e => by have := HJO.out _ e; omega)
      have hkm : ¬ (1 : Int) + 3 * (rs.length : Int) < 0 := by omega
      go_wp2_with fail
      refine (heldPz_any _ rs.length _ _ (by omega) hd).mono ?_
      rintro e we ⟨rfl, be⟩
      have Be := chain Bd be
      have ie := id'.below be
      have he := hd.below be
      obtain ⟨l0, lz⟩ := keep1 lz l0 be
      obtain ⟨m0, mz⟩ := keep1 mz m0 be
      obtain ⟨n0, nz⟩ := keep1 nz n0 be
      go_wp2_with fail
      refine (toPuzzle_any cs v _ hN (HV.out.below Be)).mono ?_
      rintro e wf ⟨⟨gf, rfl, uf⟩, bf⟩
      have Bf := chain Be bf
      obtain ⟨m0, mz⟩ := keep1 mz m0 bf
      obtain ⟨n0, nz⟩ := keep1 nz n0 bf
      go_wp2_with fail
      refine (HIN.out _ _ _ _ uf.rd).mono ?_
      rintro e wg ⟨⟨a2, p2, rfl, jg⟩, bg⟩
      have Bg := chain Bf bg
      have ig := (ie.below bf).below bg
      have mg := (he.below bf).below bg
      obtain ⟨m0, mz⟩ := keep1 mz m0 bg
      obtain ⟨n0, nz⟩ := keep1 nz n0 bg
      have bgh : Below wg.heap.size wg (wg.alloc (.cells #[.slice a2 rs.length p2] 30)) := (Below.refl _ _).alloc (Nat.le_refl _) _
      obtain ⟨m0, mz⟩ := keep1 mz m0 bgh
      obtain ⟨n0, nz⟩ := keep1 nz n0 bgh
      have Bh := chain Bg bgh
      go_wp2_with fail
      refine (eqPuzzle_yes rs _ _ _ (by omega) (jg.below bgh).rd (ig.below bgh).rd).mono ?_
      rintro e wh ⟨rfl, bh⟩
      obtain ⟨n0, nz⟩ := keep1 nz n0 bh
      go_wp2_with fail
      refine (heldPz_any _ rs.length _ _ (by omega) ((mg.below bgh).below bh)).mono ?_
      rintro e wi ⟨rfl, bi⟩
      go_wp2_with fail
      go_ret
      exact ⟨rfl, chain (chain Bh bh) bi⟩

end Go.Proofs.YtakckgbkfnogbabDoor
