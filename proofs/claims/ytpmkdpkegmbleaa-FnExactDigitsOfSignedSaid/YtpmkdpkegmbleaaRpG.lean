/-
  What a Replacer of signs by nothing is built of: a table of texts.
-/
import Derived.Test.YtpmkdpkegmbleaaRpE
namespace Go.Proofs.Ytpmkdpkegmbleaa
open Go.RowKit

theorem make3 (w : World) : (Instr.makeSlice 29 (.int .i64 0) (.int .i64 3)).run Try.prog w = .ok (.slice (some ⟨w.heap.size, 0, none⟩) 0 3) (w.alloc (.cells (madeCells #[.string ⟨#[]⟩] 3) 9)) := by
  obtain ⟨i0, hi, hz0, hz1, hz2⟩ := info_parts (show (Try.prog.info? 9).map (fun i => (i.zero, i.size, i.bytes)) = some (some (.string ⟨#[]⟩), 1, 16) by kernel_rfl)
  have := run_make (P := Try.prog) w 29 9 i0 (.string ⟨#[]⟩) Try.underlying29 hi hz0 .i64 .i64 0 3 (by omega) (by omega) (by rw [hz2]; omega) (by omega)
  rw [hz1] at this
  exact this
theorem zero65 : Try.zeroCells65 = Array.replicate 257 (.slice none 0 0) := by kernel_rfl
theorem store_plain (w : World) (v : Value) (h1 : v.oneCell' = true) : (storeCells ⟨w.heap.size, 0, none⟩ (Try.zeroCells65.toList.set 256 v) 0).run Try.prog (w.alloc (.cells Try.zeroCells65 65)) = .ok () (w.alloc (.cells (Try.zeroCells65.setIfInBounds 256 v) 65)) := by
  have hsz : (Try.zeroCells65).size = 257 := by rw [zero65]; simp
  have := run_storeCells_new (P := Try.prog) w 65 Try.zeroCells65 (Try.zeroCells65.setIfInBounds 256 v) (by rw [Array.size_setIfInBounds, hsz]; kernel_rfl) (by simp) (by
    rw [zero65, Array.all_eq_true]
    intro i hi
    have hi2 : i < (Array.replicate 257 (Value.slice none 0 0)).size := by simpa using hi
    rw [Array.getElem_setIfInBounds hi2]
    split
    · exact h1
    · rw [Array.getElem_replicate]; rfl)
  simpa using this
theorem row_plain (w : World) (v : Value) : (w.alloc (.cells (Try.zeroCells65.setIfInBounds 256 v) 65)).rowIs w.heap.size 65 257 (fun j => if j = 256 then v else .slice none 0 0) := by
  have hsz : (Try.zeroCells65.setIfInBounds 256 v).size = 257 := by rw [zero65]; simp
  have := World.rowIs_alloc w (Try.zeroCells65.setIfInBounds 256 v) 65 (fun j => if j = 256 then v else .slice none 0 0) (fun i hi => by
    rw [hsz] at hi
    rw [zero65, Array.getElem?_setIfInBounds]
    by_cases e : i = 256
    · subst e; simp
    · rw [if_neg (fun h => e h.symm), if_neg e]; simp [hi])
  rwa [hsz] at this
/-- A table of texts: for which bytes there is one, all of them empty; and the list beside it. -/
def BRw (W : World) (g : Nat) (v : Value) (P : Nat → Prop) : Prop := ∃ f, W.rowIs g 65 257 f ∧ f 256 = v ∧ ∀ j, j < 256 → (P j → ∃ h c, f j = .slice (some ⟨h, 0, none⟩) 0 c) ∧ (¬ P j → f j = .slice none 0 0)
theorem BRw.no {W : World} {g : Nat} {v : Value} {P : Nat → Prop} (h : BRw W g v P) {j : Nat} (hj : j < 256) (hp : ¬ P j) : W.cell? ⟨g, j, none⟩ = some (.slice none 0 0) := by
  obtain ⟨f, h1, _, h3⟩ := h
  rw [h1.cell (by omega), (h3 j hj).2 hp]
theorem BRw.yes {W : World} {g : Nat} {v : Value} {P : Nat → Prop} (h : BRw W g v P) {j : Nat} (hj : j < 256) (hp : P j) : ∃ h c, W.cell? ⟨g, j, none⟩ = some (.slice (some ⟨h, 0, none⟩) 0 c) := by
  obtain ⟨f, h1, _, h3⟩ := h
  obtain ⟨a, c, e⟩ := (h3 j hj).1 hp
  exact ⟨a, c, by rw [h1.cell (by omega), e]⟩
theorem BRw.tor {W : World} {g : Nat} {v : Value} {P : Nat → Prop} (h : BRw W g v P) : W.cell? ⟨g, 256, none⟩ = some v := by
  obtain ⟨f, h1, h2, _⟩ := h
  rw [h1.cell (by omega), h2]
theorem BRw.free {W : World} {g : Nat} {v : Value} {P : Nat → Prop} (h : BRw W g v P) (j : Nat) : W.frozen? ⟨g, j, none⟩ = false := by
  obtain ⟨f, h1, _, _⟩ := h
  exact h1.frozen j
theorem BRw.lt {W : World} {g : Nat} {v : Value} {P : Nat → Prop} (h : BRw W g v P) : g < W.heap.size := by
  obtain ⟨f, h1, _, _⟩ := h
  exact h1.lt
theorem BRw.of_block {W W' : World} {g : Nat} {v : Value} {P : Nat → Prop} (h : BRw W g v P) (e : W'.heap[g]? = W.heap[g]?) : BRw W' g v P := by
  obtain ⟨f, h1, h2, h3⟩ := h
  exact ⟨f, h1.of_block e, h2, h3⟩
theorem BRw.alloc {W : World} {g : Nat} {v : Value} {P : Nat → Prop} (h : BRw W g v P) (o : Obj) : BRw (W.alloc o) g v P := h.of_block (Below.heap_alloc _ _ _ h.lt)
theorem BRw.other {W : World} {g : Nat} {v : Value} {P : Nat → Prop} (h : BRw W g v P) {a : Addr} (ha : g ≠ a.block) (u : Value) : BRw (W.setCell a u) g v P := h.of_block (Below.heap_setCell _ _ _ _ ha)
theorem BRw.bytes {W : World} {g : Nat} {v : Value} {P : Nat → Prop} (h : BRw W g v P) (e : TypeId) (s : ByteArray) : BRw (Lib.bytesWorld W e s) g v P := h.of_block (Lib.bytesWorld_at_old W e s g h.lt)
theorem BRw.grown {W W' : World} {g t0 : Nat} {v : Value} {P : Nat → Prop} (h : BRw W g v P) (hg : W.grownBy W' (some t0)) (hne : g ≠ t0) : BRw W' g v P := h.of_block (hg.block g h.lt (fun e => hne (Option.some.inj e)))
theorem BRw.put256 {W : World} {g : Nat} {v : Value} {P : Nat → Prop} (h : BRw W g v P) (u : Value) : BRw (W.setCell ⟨g, 256, none⟩ u) g u P := by
  obtain ⟨f, h1, h2, h3⟩ := h
  exact ⟨_, h1.set 256 u, by simp, fun j hj => by simp only [if_neg (show ¬ j = 256 by omega)]; exact h3 j hj⟩
theorem BRw.put {W : World} {g : Nat} {v : Value} {P : Nat → Prop} (h : BRw W g v P) (j a c : Nat) (P' : Nat → Prop) (hj : j < 256) (hP : ∀ i, P' i ↔ P i ∨ i = j) : BRw (W.setCell ⟨g, j, none⟩ (.slice (some ⟨a, 0, none⟩) 0 c)) g v P' := by
  obtain ⟨f, h1, h2, h3⟩ := h
  refine ⟨_, h1.set j _, by simp only [if_neg (show ¬ 256 = j by omega)]; exact h2, fun i hi => ?_⟩
  by_cases e : i = j
  · simp only [if_pos e]
    exact ⟨fun _ => ⟨a, c, rfl⟩, fun hn => absurd ((hP i).2 (.inr e)) hn⟩
  · simp only [if_neg e]
    exact ⟨fun hp => (h3 i hi).1 (((hP i).1 hp).resolve_right e), fun hn => (h3 i hi).2 (fun hp => hn ((hP i).2 (.inl hp)))⟩
theorem BRw.made (w : World) (v : Value) : BRw (w.alloc (.cells (Try.zeroCells65.setIfInBounds 256 v) 65)) w.heap.size v (fun _ => False) :=
  ⟨_, row_plain w v, by simp, fun j hj => ⟨fun h => h.elim, fun _ => by simp only [if_neg (show ¬ j = 256 by omega)]⟩⟩
/-- The list's row, with room for three. -/
def SOw (W : World) (t0 k : Nat) (xs : List Value) : Prop := W.ownsRow 0 9 1 (.slice (some ⟨t0, 0, none⟩) k 3) k xs
theorem SOw.of_block {W W' : World} {t0 k : Nat} {xs : List Value} (h : SOw W t0 k xs) (e : W'.heap[t0]? = W.heap[t0]?) : SOw W' t0 k xs := by
  refine ⟨h.1, ?_⟩
  rcases h.2 with ⟨h0, _⟩ | ⟨g, cap, cur, hv, hb, hg, r⟩
  · cases h0
  · simp only [Value.slice.injEq, Option.some.injEq, Addr.mk.injEq] at hv
    obtain ⟨⟨rfl, _, _⟩, _, rfl⟩ := hv
    exact .inr ⟨t0, 3, cur, rfl, hb, e.trans hg, r⟩
theorem SOw.lt {W : World} {t0 k : Nat} {xs : List Value} (h : SOw W t0 k xs) : t0 < W.heap.size := (World.ownsRow.lt h t0 rfl).2
theorem SOw.alloc {W : World} {t0 k : Nat} {xs : List Value} (h : SOw W t0 k xs) (o : Obj) : SOw (W.alloc o) t0 k xs := h.of_block (Below.heap_alloc _ _ _ h.lt)
theorem SOw.other {W : World} {t0 k : Nat} {xs : List Value} (h : SOw W t0 k xs) {a : Addr} (ha : t0 ≠ a.block) (u : Value) : SOw (W.setCell a u) t0 k xs := h.of_block (Below.heap_setCell _ _ _ _ ha)
theorem SOw.bytes {W : World} {t0 k : Nat} {xs : List Value} (h : SOw W t0 k xs) (e : TypeId) (s : ByteArray) : SOw (Lib.bytesWorld W e s) t0 k xs := h.of_block (Lib.bytesWorld_at_old W e s t0 h.lt)
theorem SOw.made (w : World) : SOw (w.alloc (.cells (madeCells #[.string ⟨#[]⟩] 3) 9)) w.heap.size 0 [] :=
  ⟨rfl, .inr ⟨w.heap.size, 3, _, rfl, Nat.zero_le _, (MapKept.heap_alloc w _).1, Nat.zero_le _, by unfold maxLen; omega, by simp [size_madeCells], rfl⟩⟩
/-- The signs. -/
def sgP (j : Nat) : Prop := (j = 45 ∨ j = 43) ∨ j = 42
theorem convE (W : World) : (convert 9 62 (.string ⟨#[]⟩)).run Try.prog W = .ok (.slice (some ⟨W.heap.size, 0, none⟩) 0 (grownCap W 0 0 5)) (Lib.bytesWorld W 5 ⟨#[]⟩) :=
  Lib.run_convert_string_bytes (P := Try.prog) W 9 62 5 ⟨#[]⟩ Try.underlying9 Try.underlying62 Try.underlying5
theorem convB (w : World) (c : UInt8) (z : Int) (hz : z = (c.toNat : Int)) : (convert 62 9 (.slice (some ⟨w.heap.size, 0, none⟩) 1 1)).run Try.prog (w.alloc (.cells #[.int .u8 z] 5)) = .ok (.string ⟨#[c]⟩) (w.alloc (.cells #[.int .u8 z] 5)) :=
  run_convert_bytes_back (P := Try.prog) (w.alloc (.cells #[.int .u8 z] 5)) 62 9 5 ⟨w.heap.size, 0, none⟩ 1 [c] Try.underlying62 Try.underlying5 Try.underlying9 (by
    intro j hj
    match j, hj with
    | 0, _ => simp [Addr.add, hz])
theorem news_one (w : World) (x : Obj) (ty : TypeId) (v : Value) : ∀ j u, [v][j]? = some u → ((w.alloc x).alloc (.cells #[v] ty)).cell? ((⟨w.heap.size + 1, 0, none⟩ : Addr).add j) = some u := by
  intro j u hj
  match j, hj with
  | 0, hj => simp at hj; subst hj; simp [Addr.add]
set_option maxRecDepth 100000 in
set_option maxHeartbeats 8000000 in
theorem build_plain (b s cap : Nat) (w : World) (hs : s < w.heap.size)
    (h4 : w.cell? ⟨b, 4, none⟩ = some (.slice (some ⟨s, 0, none⟩) 6 cap))
    (s0 : w.cell? ⟨s, 0, none⟩ = some (.string ⟨#[42]⟩)) (s1 : w.cell? ⟨s, 1, none⟩ = some (.string ⟨#[]⟩))
    (s2 : w.cell? ⟨s, 2, none⟩ = some (.string ⟨#[43]⟩)) (s3 : w.cell? ⟨s, 3, none⟩ = some (.string ⟨#[]⟩))
    (s4 : w.cell? ⟨s, 4, none⟩ = some (.string ⟨#[45]⟩)) (s5 : w.cell? ⟨s, 5, none⟩ = some (.string ⟨#[]⟩)) :
    Calls Try.prog 23 #[.pointer (some ⟨b, 0, none⟩)] w fun e w' => ∃ g, e = .returned (.iface 66 (.pointer (some ⟨g, 0, none⟩))) ∧ w.heap.size ≤ g ∧ (∃ t0, BRw w' g (.slice (some ⟨t0, 0, none⟩) 3 3) sgP) ∧ Below w.heap.size w w' := by
  have HS0 : Hid (∀ W, Below w.heap.size w W → W.cell? ⟨s, 0, none⟩ = some (.string ⟨#[42]⟩)) := fun W h => by rw [h.cell (p := ⟨s, 0, none⟩) hs]; exact s0
  have HS1 : Hid (∀ W, Below w.heap.size w W → W.cell? ⟨s, 1, none⟩ = some (.string ⟨#[]⟩)) := fun W h => by rw [h.cell (p := ⟨s, 1, none⟩) hs]; exact s1
  have HS2 : Hid (∀ W, Below w.heap.size w W → W.cell? ⟨s, 2, none⟩ = some (.string ⟨#[43]⟩)) := fun W h => by rw [h.cell (p := ⟨s, 2, none⟩) hs]; exact s2
  have HS3 : Hid (∀ W, Below w.heap.size w W → W.cell? ⟨s, 3, none⟩ = some (.string ⟨#[]⟩)) := fun W h => by rw [h.cell (p := ⟨s, 3, none⟩) hs]; exact s3
  have HS4 : Hid (∀ W, Below w.heap.size w W → W.cell? ⟨s, 4, none⟩ = some (.string ⟨#[45]⟩)) := fun W h => by rw [h.cell (p := ⟨s, 4, none⟩) hs]; exact s4
  have HS5 : Hid (∀ W, Below w.heap.size w W → W.cell? ⟨s, 5, none⟩ = some (.string ⟨#[]⟩)) := fun W h => by rw [h.cell (p := ⟨s, 5, none⟩) hs]; exact s5
  have hmk := make3
  go_enter Try.func23, Try.ntmps23
  go_wp2
  go_loopw [4, 5] (fun a i wr => ((a = .bool true ∧ i = .int .i64 0) ∨ (a = .bool false ∧ (i = .int .i64 2 ∨ i = .int .i64 4 ∨ i = .int .i64 6))) ∧ Below w.heap.size w wr) (fun _ i _ => 6 - (intOf i).toNat)
  case atStart => exact ⟨.inl ⟨rfl, rfl⟩, Below.refl _ _⟩
  case round =>
    obtain ⟨hor, hb0⟩ := hrel
    obtain ⟨wi, rfl⟩ : ∃ wi : World, wi = wr := ⟨_, rfl⟩
    have r0 := HS0.out _ hb0
    have r1 := HS1.out _ hb0
    have r2 := HS2.out _ hb0
    have r3 := HS3.out _ hb0
    have r4 := HS4.out _ hb0
    have r5 := HS5.out _ hb0
    have hsz := hb0.size
    clear s0 s1 s2 s3 s4 s5 h4
    have hst := store_plain (wi.alloc (.cells (madeCells #[.string ⟨#[]⟩] 3) 9)) (.slice (some ⟨wi.heap.size, 0, none⟩) 0 3) rfl
    simp only [World.size_alloc] at hst
    rcases hor with ⟨rfl, rfl⟩ | ⟨rfl, rfl | rfl | rfl⟩
    · go_wp2
      go_roundw
      case rel => exact ⟨.inr ⟨rfl, .inl (by go_num)⟩, hb0⟩
      case measure => simp [intOf]
    · go_wp2
      go_roundw
      case rel => exact ⟨.inr ⟨rfl, .inr (.inl (by go_num))⟩, hb0⟩
      case measure => simp [intOf]
    · go_wp2
      go_roundw
      case rel => exact ⟨.inr ⟨rfl, .inr (.inr (by go_num))⟩, hb0⟩
      case measure => simp [intOf]
    · go_wp2
      obtain ⟨t0, ht0⟩ : ∃ t0, t0 = wi.heap.size := ⟨_, rfl⟩
      obtain ⟨g, hg⟩ : ∃ g, g = wi.heap.size + 1 := ⟨_, rfl⟩
      have hgne : g ≠ t0 := by omega
      have HGE : Hid (w.heap.size ≤ t0) := by show _ ≤ _; omega
      have HGG : Hid (w.heap.size ≤ g) := by show _ ≤ _; omega
      have HB1 : Below w.heap.size w ((wi.alloc (.cells (madeCells #[.string ⟨#[]⟩] 3) 9)).alloc (.cells (Try.zeroCells65.setIfInBounds 256 (.slice (some ⟨wi.heap.size, 0, none⟩) 0 3)) 65)) := by go_grown
      have HI : Hid (BRw ((wi.alloc (.cells (madeCells #[.string ⟨#[]⟩] 3) 9)).alloc (.cells (Try.zeroCells65.setIfInBounds 256 (.slice (some ⟨wi.heap.size, 0, none⟩) 0 3)) 65)) g (.slice (some ⟨t0, 0, none⟩) 0 3) (fun _ => False)) := by
        show BRw _ _ _ _
        have := BRw.made (wi.alloc (.cells (madeCells #[.string ⟨#[]⟩] 3) 9)) (.slice (some ⟨wi.heap.size, 0, none⟩) 0 3)
        rw [World.size_alloc, ← hg] at this
        rw [ht0]; exact this
      have HO : Hid (SOw ((wi.alloc (.cells (madeCells #[.string ⟨#[]⟩] 3) 9)).alloc (.cells (Try.zeroCells65.setIfInBounds 256 (.slice (some ⟨wi.heap.size, 0, none⟩) 0 3)) 65)) t0 0 []) := by
        show SOw _ _ _ _
        rw [ht0]; exact (SOw.made wi).alloc _
      rw [← hg]
      clear r0 r1 r2 r3 r4 r5 hst hmk ht0 hg
      go_loopw [12] (fun i wr' => ((i = .int .i64 4 ∧ Hid (BRw wr' g (.slice (some ⟨t0, 0, none⟩) 0 3) (fun _ => False) ∧ ∃ xs, SOw wr' t0 0 xs)) ∨ (i = .int .i64 2 ∧ Hid (BRw wr' g (.slice (some ⟨t0, 0, none⟩) 1 3) (fun j => j = 45) ∧ ∃ xs, SOw wr' t0 1 xs)) ∨ (i = .int .i64 0 ∧ Hid (BRw wr' g (.slice (some ⟨t0, 0, none⟩) 2 3) (fun j => j = 45 ∨ j = 43) ∧ ∃ xs, SOw wr' t0 2 xs)) ∨ (i = .int .i64 (-2) ∧ Hid (BRw wr' g (.slice (some ⟨t0, 0, none⟩) 3 3) sgP))) ∧ Below w.heap.size w wr') (fun i _ => (intOf i + 2).toNat)
      case atStart => exact ⟨.inl ⟨rfl, HI.out, [], HO.out⟩, HB1⟩
      case round =>
        obtain ⟨hor, hb1⟩ := hrel
        obtain ⟨wk, rfl⟩ : ∃ wk : World, wk = wr := ⟨_, rfl⟩
        have r0 := HS0.out _ hb1
        have r1 := HS1.out _ hb1
        have r2 := HS2.out _ hb1
        have r3 := HS3.out _ hb1
        have r4 := HS4.out _ hb1
        have r5 := HS5.out _ hb1
        have hsk := hb1.size
        have hnn : ∀ (W : World), (binOp .eql 62 (.slice none 0 0) (.slice none 0 0)).run Try.prog W = .ok (.bool true) W := fun _ => rfl
        have k45 : ∀ h : 0 < (⟨#[45]⟩ : ByteArray).size, ((⟨#[45]⟩ : ByteArray)[0]'h).toNat = 45 := fun _ => rfl
        have k43 : ∀ h : 0 < (⟨#[43]⟩ : ByteArray).size, ((⟨#[43]⟩ : ByteArray)[0]'h).toNat = 43 := fun _ => rfl
        have k42 : ∀ h : 0 < (⟨#[42]⟩ : ByteArray).size, ((⟨#[42]⟩ : ByteArray)[0]'h).toNat = 42 := fun _ => rfl
        obtain ⟨i0, hi, hz0, hz1, hz2⟩ := info_parts (show (Try.prog.info? 9).map (fun i => (i.zero, i.size, i.bytes)) = some (some (.string ⟨#[]⟩), 1, 16) by kernel_rfl)
        have HII := Lib.hid hi
        have HZ1 := Lib.hid hz1
        clear hi hz0 hz1 hz2
        rcases hor with ⟨rfl, HT, ⟨xs, HO⟩⟩ | ⟨rfl, HT, ⟨xs, HO⟩⟩ | ⟨rfl, HT, ⟨xs, HO⟩⟩ | ⟨rfl, HT⟩
        · have HTT : Hid (BRw wk g (.slice (some ⟨t0, 0, none⟩) 0 3) _) := HT
          have HOO : Hid (SOw wk t0 0 xs) := HO
          clear HT HO
          have c0 := HTT.out.no (j := 45) (by omega) (by simp)
          have c1 := HTT.out.tor
          have hcv1 := convB wk 45 45 rfl
          go_wp2_with (at_builtin; refine wpList_append_fits _ rfl _ _ 29 rfl 0 9 i0 1 Try.underlying29 HII.out HZ1.out t0 0 3 xs rfl ((HOO.out.alloc _).alloc _) ⟨wk.heap.size + 1, 0, none⟩ 1 1 [.string ⟨#[45]⟩] rfl rfl (news_one _ _ _ _) (by intro u hu; simp at hu; subst hu; rfl) (by omega) ?_; intro w3 hown hgr; have HT3 := Lib.hid (((HTT.out.alloc _).alloc _).grown hgr hgne); have HB3 : Below w.heap.size w w3 := (show Below w.heap.size w ((wk.alloc (.cells #[.int .u8 45] 5)).alloc (.cells #[.string ⟨#[45]⟩] 9)) by go_grown).grown hgr (by simp; omega) (by intro q hq; cases hq; exact HGE.out); have c2 := HT3.out.tor; have z2 := HT3.out.free 256; have HT4 := Lib.hid (HT3.out.put256 (.slice (some ⟨t0, 0, none⟩) 1 3)); have hcv2 := convE (w3.setCell ⟨g, 256, none⟩ (.slice (some ⟨t0, 0, none⟩) 1 3)); have HT5 := Lib.hid (HT4.out.bytes 5 ⟨#[]⟩); have c3 := HT5.out.no (j := 45) (by omega) (by simp); have z3 := HT5.out.free 45; have HO6 := Lib.hid (((show SOw w3 t0 1 _ from hown).other (a := ⟨g, 256, none⟩) hgne.symm (.slice (some ⟨t0, 0, none⟩) 1 3)).bytes 5 ⟨#[]⟩); clear hown hgr)
          have e1 := HB3.setCell (p := ⟨g, 256, none⟩) HGG.out (.slice (some ⟨t0, 0, none⟩) 1 3)
          have e2 := e1.trans ((below_bytes (w3.setCell ⟨g, 256, none⟩ (.slice (some ⟨t0, 0, none⟩) 1 3)) 5 ⟨#[]⟩).mono e1.size)
          have E2 := Lib.hid e2
          clear e1 e2
          go_roundw
          case rel => exact ⟨.inr (.inl ⟨by go_num, HT5.out.put 45 _ _ _ (by omega) (fun i => by simp), _, HO6.out.other (a := ⟨g, 45, none⟩) hgne.symm _⟩), E2.out.setCell (p := ⟨g, 45, none⟩) HGG.out _⟩
          case measure => simp [intOf]
        · have HTT : Hid (BRw wk g (.slice (some ⟨t0, 0, none⟩) 1 3) _) := HT
          have HOO : Hid (SOw wk t0 1 xs) := HO
          clear HT HO
          have c0 := HTT.out.no (j := 43) (by omega) (by simp)
          have c1 := HTT.out.tor
          have hcv1 := convB wk 43 43 rfl
          go_wp2_with (at_builtin; refine wpList_append_fits _ rfl _ _ 29 rfl 0 9 i0 1 Try.underlying29 HII.out HZ1.out t0 1 3 xs rfl ((HOO.out.alloc _).alloc _) ⟨wk.heap.size + 1, 0, none⟩ 1 1 [.string ⟨#[43]⟩] rfl rfl (news_one _ _ _ _) (by intro u hu; simp at hu; subst hu; rfl) (by omega) ?_; intro w3 hown hgr; have HT3 := Lib.hid (((HTT.out.alloc _).alloc _).grown hgr hgne); have HB3 : Below w.heap.size w w3 := (show Below w.heap.size w ((wk.alloc (.cells #[.int .u8 43] 5)).alloc (.cells #[.string ⟨#[43]⟩] 9)) by go_grown).grown hgr (by simp; omega) (by intro q hq; cases hq; exact HGE.out); have c2 := HT3.out.tor; have z2 := HT3.out.free 256; have HT4 := Lib.hid (HT3.out.put256 (.slice (some ⟨t0, 0, none⟩) 2 3)); have hcv2 := convE (w3.setCell ⟨g, 256, none⟩ (.slice (some ⟨t0, 0, none⟩) 2 3)); have HT5 := Lib.hid (HT4.out.bytes 5 ⟨#[]⟩); have c3 := HT5.out.no (j := 43) (by omega) (by simp); have z3 := HT5.out.free 43; have HO6 := Lib.hid (((show SOw w3 t0 2 _ from hown).other (a := ⟨g, 256, none⟩) hgne.symm (.slice (some ⟨t0, 0, none⟩) 2 3)).bytes 5 ⟨#[]⟩); clear hown hgr)
          have e1 := HB3.setCell (p := ⟨g, 256, none⟩) HGG.out (.slice (some ⟨t0, 0, none⟩) 2 3)
          have e2 := e1.trans ((below_bytes (w3.setCell ⟨g, 256, none⟩ (.slice (some ⟨t0, 0, none⟩) 2 3)) 5 ⟨#[]⟩).mono e1.size)
          have E2 := Lib.hid e2
          clear e1 e2
          go_roundw
          case rel => exact ⟨.inr (.inr (.inl ⟨by go_num, HT5.out.put 43 _ _ _ (by omega) (fun i => Iff.rfl), _, HO6.out.other (a := ⟨g, 43, none⟩) hgne.symm _⟩)), E2.out.setCell (p := ⟨g, 43, none⟩) HGG.out _⟩
          case measure => simp [intOf]
        · have HTT : Hid (BRw wk g (.slice (some ⟨t0, 0, none⟩) 2 3) _) := HT
          have HOO : Hid (SOw wk t0 2 xs) := HO
          clear HT HO
          have c0 := HTT.out.no (j := 42) (by omega) (by simp)
          have c1 := HTT.out.tor
          have hcv1 := convB wk 42 42 rfl
          go_wp2_with (at_builtin; refine wpList_append_fits _ rfl _ _ 29 rfl 0 9 i0 1 Try.underlying29 HII.out HZ1.out t0 2 3 xs rfl ((HOO.out.alloc _).alloc _) ⟨wk.heap.size + 1, 0, none⟩ 1 1 [.string ⟨#[42]⟩] rfl rfl (news_one _ _ _ _) (by intro u hu; simp at hu; subst hu; rfl) (by omega) ?_; intro w3 hown hgr; have HT3 := Lib.hid (((HTT.out.alloc _).alloc _).grown hgr hgne); have HB3 : Below w.heap.size w w3 := (show Below w.heap.size w ((wk.alloc (.cells #[.int .u8 42] 5)).alloc (.cells #[.string ⟨#[42]⟩] 9)) by go_grown).grown hgr (by simp; omega) (by intro q hq; cases hq; exact HGE.out); have c2 := HT3.out.tor; have z2 := HT3.out.free 256; have HT4 := Lib.hid (HT3.out.put256 (.slice (some ⟨t0, 0, none⟩) 3 3)); have hcv2 := convE (w3.setCell ⟨g, 256, none⟩ (.slice (some ⟨t0, 0, none⟩) 3 3)); have HT5 := Lib.hid (HT4.out.bytes 5 ⟨#[]⟩); have c3 := HT5.out.no (j := 42) (by omega) (by simp); have z3 := HT5.out.free 42; clear hown hgr)
          have e1 := HB3.setCell (p := ⟨g, 256, none⟩) HGG.out (.slice (some ⟨t0, 0, none⟩) 3 3)
          have e2 := e1.trans ((below_bytes (w3.setCell ⟨g, 256, none⟩ (.slice (some ⟨t0, 0, none⟩) 3 3)) 5 ⟨#[]⟩).mono e1.size)
          have E2 := Lib.hid e2
          clear e1 e2
          go_roundw
          case rel => exact ⟨.inr (.inr (.inr ⟨by go_num, HT5.out.put 42 _ _ _ (by omega) (fun i => Iff.rfl)⟩)), E2.out.setCell (p := ⟨g, 42, none⟩) HGG.out _⟩
          case measure => simp [intOf]
        · go_wp2
          go_ret
          exact ⟨g, rfl, HGG.out, ⟨t0, HT.out⟩, hb1⟩
end Go.Proofs.Ytpmkdpkegmbleaa
