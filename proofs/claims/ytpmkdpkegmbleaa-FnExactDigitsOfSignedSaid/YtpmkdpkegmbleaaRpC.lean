/-
  What a Replacer is built of: a table of bytes.
-/
import Derived.Test.YtpmkdpkegmbleaaRpB
import Derived.Deep.WholeRow
import Derived.Deep.OwnRows
import Derived.Below
namespace Go.Proofs.Ytpmkdpkegmbleaa
open Go.RowKit

/-- A table of bytes. -/
def TRow (w : World) (g : Nat) (f : Nat → Int) : Prop := w.rowIs g 60 256 (fun j => .int .u8 (f j))
theorem TRow.cell {w : World} {g : Nat} {f : Nat → Int} (h : TRow w g f) {i : Nat} (hi : i < 256) : w.cell? ⟨g, i, none⟩ = some (.int .u8 (f i)) := World.rowIs.cell h hi
theorem TRow.frozen {w : World} {g : Nat} {f : Nat → Int} (h : TRow w g f) (i : Nat) : w.frozen? ⟨g, i, none⟩ = false := World.rowIs.frozen h i
theorem TRow.lt {w : World} {g : Nat} {f : Nat → Int} (h : TRow w g f) : g < w.heap.size := World.rowIs.lt h
theorem TRow.other {w : World} {g : Nat} {f : Nat → Int} (h : TRow w g f) {a : Addr} (ha : g ≠ a.block) (v : Value) : TRow (w.setCell a v) g f := World.rowIs.setOther h ha v
theorem TRow.below {w w' : World} {g : Nat} {f : Nat → Int} (h : TRow w g f) {B : Nat} (k : Below B w w') (hg : g < B) : TRow w' g f := World.rowIs.of_block h (k.block g hg)
theorem TRow.put {w : World} {g : Nat} {f f' : Nat → Int} (h : TRow w g f) (i : Nat) (x : Int) (hf : ∀ j, f' j = if j = i then x else f j) : TRow (w.setCell ⟨g, i, none⟩ (.int .u8 x)) g f' :=
  World.rowIs.congr (World.rowIs.set h i (.int .u8 x)) fun j _ => by rw [hf j]; split <;> rfl
theorem TRow.made (w : World) : TRow (w.alloc (.cells Try.zeroCells60 60)) w.heap.size (fun _ => 0) := by
  have e : Try.zeroCells60 = Array.replicate 256 (.int .u8 0) := by kernel_rfl
  have := World.rowIs_alloc w (Array.replicate 256 (.int .u8 0)) 60 (fun _ => .int .u8 0) (fun i hi => by simp at hi; simp [hi])
  rw [Array.size_replicate] at this
  rw [e]
  exact this
theorem store_zero (w : World) : (storeCells ⟨w.heap.size, 0, none⟩ Try.zeroCells60.toList 0).run Try.prog (w.alloc (.cells Try.zeroCells60 60)) = .ok () (w.alloc (.cells Try.zeroCells60 60)) :=
  run_storeCells_new (P := Try.prog) w 60 _ _ (by kernel_rfl) rfl (by kernel_rfl)
/-- Which sign stands for which. -/
def turn (i : Nat) : Int := if i = 43 then 45 else if i = 45 then 43 else (i : Int)
set_option maxRecDepth 100000 in
set_option maxHeartbeats 1600000 in
theorem build_turn (b s cap : Nat) (w : World) (hs : s < w.heap.size)
    (h4 : w.cell? ⟨b, 4, none⟩ = some (.slice (some ⟨s, 0, none⟩) 4 cap))
    (s0 : w.cell? ⟨s, 0, none⟩ = some (.string ⟨#[43]⟩)) (s1 : w.cell? ⟨s, 1, none⟩ = some (.string ⟨#[45]⟩))
    (s2 : w.cell? ⟨s, 2, none⟩ = some (.string ⟨#[45]⟩)) (s3 : w.cell? ⟨s, 3, none⟩ = some (.string ⟨#[43]⟩)) :
    Calls Try.prog 23 #[.pointer (some ⟨b, 0, none⟩)] w fun e w' => ∃ g, e = .returned (.iface 61 (.pointer (some ⟨g, 0, none⟩))) ∧ w.heap.size ≤ g ∧ TRow w' g turn ∧ Below w.heap.size w w' := by
  have hst := store_zero
  have HS0 : Hid (∀ W, Below w.heap.size w W → W.cell? ⟨s, 0, none⟩ = some (.string ⟨#[43]⟩)) := fun W h => by rw [h.cell (p := ⟨s, 0, none⟩) hs]; exact s0
  have HS1 : Hid (∀ W, Below w.heap.size w W → W.cell? ⟨s, 1, none⟩ = some (.string ⟨#[45]⟩)) := fun W h => by rw [h.cell (p := ⟨s, 1, none⟩) hs]; exact s1
  have HS2 : Hid (∀ W, Below w.heap.size w W → W.cell? ⟨s, 2, none⟩ = some (.string ⟨#[45]⟩)) := fun W h => by rw [h.cell (p := ⟨s, 2, none⟩) hs]; exact s2
  have HS3 : Hid (∀ W, Below w.heap.size w W → W.cell? ⟨s, 3, none⟩ = some (.string ⟨#[43]⟩)) := fun W h => by rw [h.cell (p := ⟨s, 3, none⟩) hs]; exact s3
  go_enter Try.func23, Try.ntmps23
  go_wp2
  go_loopw [4, 5] (fun a i wr => ∃ (k : Nat), k ≤ 2 ∧ a = .bool true ∧ i = .int .i64 (2 * (k : Int)) ∧ Below w.heap.size w wr) (fun _ i _ => 4 - (intOf i).toNat)
  case atStart => exact ⟨0, by omega, rfl, rfl, Below.refl _ _⟩
  case round =>
    obtain ⟨k, hk, rfl, rfl, hb0⟩ := hrel
    obtain ⟨wi, rfl⟩ : ∃ wi : World, wi = wr := ⟨_, rfl⟩
    have r0 := HS0.out _ hb0
    have r1 := HS1.out _ hb0
    have r2 := HS2.out _ hb0
    have r3 := HS3.out _ hb0
    have hsz := hb0.size
    clear s0 s1 s2 s3 h4
    rcases (show k = 0 ∨ k = 1 ∨ k = 2 by omega) with rfl | rfl | rfl
    · go_wp2
      go_roundw
      case rel => exact ⟨1, by omega, rfl, by go_num, hb0⟩
      case measure => simp [intOf]
    · go_wp2
      go_roundw
      case rel => exact ⟨2, by omega, rfl, by go_num, hb0⟩
      case measure => simp [intOf]
    · go_wp2
      obtain ⟨g, hg⟩ : ∃ g, g = wi.heap.size := ⟨_, rfl⟩
      have HGE : Hid (w.heap.size ≤ g) := by show _ ≤ _; omega
      have HT0 : Hid (TRow (wi.alloc (.cells Try.zeroCells60 60)) g (fun j => if j < 0 then (j : Int) else 0)) := by
        show TRow _ _ _; rw [hg]; exact World.rowIs.congr (TRow.made _) fun j _ => by simp
      have HB1 : Below w.heap.size w (wi.alloc (.cells Try.zeroCells60 60)) := by go_grown
      rw [← hg]
      clear r0 r1 r2 r3 hst hg
      go_loopw [61] (fun i wr' => ∃ (k : Nat), k ≤ 256 ∧ i = .int .i64 k ∧ Hid (TRow wr' g (fun j => if j < k then (j : Int) else 0)) ∧ Below w.heap.size w wr') (fun i _ => 256 - (intOf i).toNat)
      case atStart => exact ⟨0, by omega, rfl, HT0, HB1⟩
      case round =>
        obtain ⟨k, hk, rfl, HT, hb1⟩ := hrel
        obtain ⟨wj, rfl⟩ : ∃ wj : World, wj = wr := ⟨_, rfl⟩
        by_cases hlt : k < 256
        · have c0 := HT.out.cell hlt
          have z0 := HT.out.frozen k
          have f1 : IntKind.u8.wrap (k : Int) = (k : Int) := by rw [IntWalk.u8_in] <;> omega
          have HT2 : Hid (TRow (wj.setCell ⟨g, k, none⟩ (.int .u8 (k : Int))) g (fun j => if j < k + 1 then (j : Int) else 0)) :=
            HT.out.put k _ fun j => by
              by_cases e : j = k
              · subst e; simp
              · simp only [if_neg e]; congr 1; simp; omega
          have hb2 : Below w.heap.size w (wj.setCell ⟨g, k, none⟩ (.int .u8 (k : Int))) := hb1.setCell (p := ⟨g, k, none⟩) HGE.out _
          go_wp2
          go_roundw
          case rel => exact ⟨k + 1, by omega, by go_num, HT2, hb2⟩
          case measure => simp [intOf]; omega
        · have HT3 : Hid (TRow wj g (fun j => (j : Int))) := World.rowIs.congr HT.out fun j hj => by
            show Value.int .u8 (if j < k then (j : Int) else 0) = _
            rw [if_pos (by omega)]
          go_wp2
          have HT4 : Hid (TRow wj g (fun j => (j : Int))) := HT3
          go_loopw [8] (fun i wr' => ((i = .int .i64 2 ∧ Hid (TRow wr' g (fun j => (j : Int)))) ∨ (i = .int .i64 0 ∧ Hid (TRow wr' g (fun j => if j = 45 then 43 else (j : Int)))) ∨ (i = .int .i64 (-2) ∧ Hid (TRow wr' g turn))) ∧ Below w.heap.size w wr') (fun i _ => (intOf i + 2).toNat)
          case atStart => exact ⟨.inl ⟨rfl, HT4⟩, hb1⟩
          case round =>
            obtain ⟨hor, hb1⟩ := hrel
            obtain ⟨wk, rfl⟩ : ∃ wk : World, wk = wr := ⟨_, rfl⟩
            have r0 := HS0.out _ hb1
            have r1 := HS1.out _ hb1
            have r2 := HS2.out _ hb1
            have r3 := HS3.out _ hb1
            have k45 : ∀ h : 0 < (⟨#[45]⟩ : ByteArray).size, ((⟨#[45]⟩ : ByteArray)[0]'h).toNat = 45 := fun _ => rfl
            have k43 : ∀ h : 0 < (⟨#[43]⟩ : ByteArray).size, ((⟨#[43]⟩ : ByteArray)[0]'h).toNat = 43 := fun _ => rfl
            rcases hor with ⟨rfl, HT⟩ | ⟨rfl, HT⟩ | ⟨rfl, HT⟩
            · have c0 := HT.out.cell (i := 45) (by omega)
              have z0 := HT.out.frozen 45
              have HT2 : Hid (TRow (wk.setCell ⟨g, 45, none⟩ (.int .u8 43)) g (fun j => if j = 45 then 43 else (j : Int))) :=
                HT.out.put 45 _ fun j => rfl
              have hb2 : Below w.heap.size w (wk.setCell ⟨g, 45, none⟩ (.int .u8 43)) := hb1.setCell (p := ⟨g, 45, none⟩) HGE.out _
              go_wp2
              go_roundw
              case rel => exact ⟨.inr (.inl ⟨by go_num, HT2⟩), hb2⟩
              case measure => simp [intOf]
            · have c0 := HT.out.cell (i := 43) (by omega)
              have z0 := HT.out.frozen 43
              have HT2 : Hid (TRow (wk.setCell ⟨g, 43, none⟩ (.int .u8 45)) g turn) :=
                HT.out.put 43 _ fun j => rfl
              have hb2 : Below w.heap.size w (wk.setCell ⟨g, 43, none⟩ (.int .u8 45)) := hb1.setCell (p := ⟨g, 43, none⟩) HGE.out _
              go_wp2
              go_roundw
              case rel => exact ⟨.inr (.inr ⟨by go_num, HT2⟩), hb2⟩
              case measure => simp [intOf]
            · go_wp2
              go_ret
              exact ⟨g, rfl, HGE.out, HT.out, hb1⟩
end Go.Proofs.Ytpmkdpkegmbleaa
