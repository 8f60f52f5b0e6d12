/-
  How often each digit is written: arrays of ten counts.
-/
import Derived.Test.YtdgdjgefjhkpbaaDiLeaf
import Derived.Deep.OwnRows
import Derived.Deep.DrawnRows
namespace Go.Proofs.Ytdgdjgefjhkpbaa
open Go.RowKit

/-- Ten numbers. -/
def A10 (f : Nat → Int) : Array Value := #[.int .i64 (f 0), .int .i64 (f 1), .int .i64 (f 2), .int .i64 (f 3), .int .i64 (f 4), .int .i64 (f 5), .int .i64 (f 6), .int .i64 (f 7), .int .i64 (f 8), .int .i64 (f 9)]
theorem A10_get (f : Nat → Int) {k : Nat} (hk : k < 10) : (A10 f)[k]? = some (.int .i64 (f k)) := by
  match k, hk with
  | 0, _ => rfl
  | 1, _ => rfl
  | 2, _ => rfl
  | 3, _ => rfl
  | 4, _ => rfl
  | 5, _ => rfl
  | 6, _ => rfl
  | 7, _ => rfl
  | 8, _ => rfl
  | 9, _ => rfl
theorem A10_same {f g : Nat → Int} (h : ∀ k, k < 10 → f k = g k) : A10 f = A10 g := by
  unfold A10
  rw [h 0 (by omega), h 1 (by omega), h 2 (by omega), h 3 (by omega), h 4 (by omega), h 5 (by omega), h 6 (by omega), h 7 (by omega), h 8 (by omega), h 9 (by omega)]
theorem A10_idx (f : Nat → Int) {k : Nat} (hk : k < 10) (w : World) : (Instr.index 42 (.agg (A10 f)) (.int .i64 (k : Int))).run Try.prog w = .ok (.int .i64 (f k)) w := by
  rcases (by omega : k = 0 ∨ k = 1 ∨ k = 2 ∨ k = 3 ∨ k = 4 ∨ k = 5 ∨ k = 6 ∨ k = 7 ∨ k = 8 ∨ k = 9) with rfl | rfl | rfl | rfl | rfl | rfl | rfl | rfl | rfl | rfl
  all_goals kernel_rfl
/-- Block g holds ten counts. -/
def Row10 (w : World) (g : Nat) (f : Nat → Int) : Prop := w.rowIs g 42 10 (fun j => .int .i64 (f j))
theorem Row10.cell {w : World} {g : Nat} {f : Nat → Int} (h : Row10 w g f) {i : Nat} (hi : i < 10) : w.cell? ⟨g, i, none⟩ = some (.int .i64 (f i)) := World.rowIs.cell h hi
theorem Row10.frozen {w : World} {g : Nat} {f : Nat → Int} (h : Row10 w g f) (i : Nat) : w.frozen? ⟨g, i, none⟩ = false := World.rowIs.frozen h i
theorem Row10.lt {w : World} {g : Nat} {f : Nat → Int} (h : Row10 w g f) : g < w.heap.size := World.rowIs.lt h
theorem Row10.below {w w' : World} {g : Nat} {f : Nat → Int} (h : Row10 w g f) {B : Nat} (k : Below B w w') (hg : g < B) : Row10 w' g f := World.rowIs.of_block h (k.block g hg)
theorem Row10.keep {w w' : World} {g : Nat} {f : Nat → Int} (h : Row10 w g f) (k : Below w.heap.size w w') : Row10 w' g f := h.below k h.lt
theorem Row10.alloc {w : World} {g : Nat} {f : Nat → Int} (h : Row10 w g f) (o : Obj) : Row10 (w.alloc o) g f := World.rowIs.alloc h o
theorem Row10.other {w : World} {g : Nat} {f : Nat → Int} (h : Row10 w g f) {a : Addr} (ha : g ≠ a.block) (v : Value) : Row10 (w.setCell a v) g f := World.rowIs.setOther h ha v
theorem Row10.put {w : World} {g : Nat} {f f' : Nat → Int} (h : Row10 w g f) (i : Nat) (x : Int) (hf : ∀ j, f' j = if j = i then x else f j) : Row10 (w.setCell ⟨g, i, none⟩ (.int .i64 x)) g f' :=
  World.rowIs.congr (World.rowIs.set h i (.int .i64 x)) fun j _ => by rw [hf j]; split <;> rfl
theorem Row10.putv {w : World} {g : Nat} {f f' : Nat → Int} {v : Value} (h : Row10 w g f) (i : Nat) (x : Int) (hv : v = .int .i64 x) (hf : ∀ j, f' j = if j = i then x else f j) : Row10 (w.setCell ⟨g, i, none⟩ v) g f' := by
  rw [hv]; exact h.put i x hf
theorem Row10.same {w : World} {g : Nat} {f f' : Nat → Int} (h : Row10 w g f) (e : ∀ j, j < 10 → f j = f' j) : Row10 w g f' := World.rowIs.congr h fun j hj => by rw [e j hj]
theorem Row10.new (w : World) (f : Nat → Int) : Row10 (w.alloc (.cells (A10 f) 42)) w.heap.size f := World.rowIs_alloc w (A10 f) _ _ (fun _ hi => A10_get f hi)
theorem Row10.blk {w : World} {g : Nat} {f : Nat → Int} (h : Row10 w g f) : w.heap[g]? = some (.cells (A10 f) 42 (0, 0)) := by
  obtain ⟨c, h1, h2, h3⟩ := h
  rw [h1]
  congr 2
  apply Array.ext_getElem?
  intro i
  by_cases hi : i < 10
  · rw [h3 i hi, A10_get f hi]
  · rw [Array.getElem?_eq_none (by omega), Array.getElem?_eq_none (by show 10 ≤ i; omega)]
theorem Row10.all {w : World} {g : Nat} {f : Nat → Int} (h : Row10 w g f) : w.cell? ⟨g, 0, none⟩ = some (.int .i64 (f 0)) ∧ w.cell? ⟨g, 1, none⟩ = some (.int .i64 (f 1)) ∧ w.cell? ⟨g, 2, none⟩ = some (.int .i64 (f 2)) ∧ w.cell? ⟨g, 3, none⟩ = some (.int .i64 (f 3)) ∧ w.cell? ⟨g, 4, none⟩ = some (.int .i64 (f 4)) ∧ w.cell? ⟨g, 5, none⟩ = some (.int .i64 (f 5)) ∧ w.cell? ⟨g, 6, none⟩ = some (.int .i64 (f 6)) ∧ w.cell? ⟨g, 7, none⟩ = some (.int .i64 (f 7)) ∧ w.cell? ⟨g, 8, none⟩ = some (.int .i64 (f 8)) ∧ w.cell? ⟨g, 9, none⟩ = some (.int .i64 (f 9)) ∧ (∀ i, w.frozen? ⟨g, i, none⟩ = false) ∧ g < w.heap.size :=
  ⟨h.cell (i := 0) (by omega), h.cell (i := 1) (by omega), h.cell (i := 2) (by omega), h.cell (i := 3) (by omega), h.cell (i := 4) (by omega), h.cell (i := 5) (by omega), h.cell (i := 6) (by omega), h.cell (i := 7) (by omega), h.cell (i := 8) (by omega), h.cell (i := 9) (by omega), h.frozen, h.lt⟩
/-- A count before the zeros in front are taken away. -/
def cb (n T d : Int) : Int := n / (10 * T) * T + min (max (n % (10 * T) + 1 - d * T) 0) T
set_option maxHeartbeats 1000000 in
theorem countsAt_any (n T : Int) (w : World) (h0 : 0 ≤ n) (h1 : n ≤ 1000000000000) (hT : 1 ≤ T) (hTn : T ≤ n) :
    Calls Try.prog 48 #[.int .i64 n, .int .i64 T] w fun e w' => e = .returned (.agg (A10 fun d => ca n T d)) ∧ Below w.heap.size w w' := by
  obtain ⟨hq1, hq2⟩ := quo_bd h0 hT
  have hq3 : 0 ≤ n / (10 * T) := Int.ediv_nonneg h0 (by omega)
  have hq4 : n / (10 * T) ≤ n := Int.ediv_le_self _ h0
  have hr1 := Int.emod_nonneg n (show (10 * T) ≠ 0 by omega)
  have hr2 := Int.emod_lt_of_pos n (show 0 < 10 * T by omega)
  go_enter Try.func48, Try.ntmps48
  go_wp2
  go_region
  all_goals
    go_wp2
    go_loopw [18] (fun kv wr => ∃ k : Nat, k ≤ 10 ∧ kv = .int .i64 k ∧ Hid (Row10 wr w.heap.size (fun _ => 0)) ∧ Hid (Row10 wr (w.heap.size + 1) (fun j => if j < k then cb n T j else 0)) ∧ Below w.heap.size w wr) (fun kv _ => 10 - (intOf kv).toNat)
    case atStart => exact ⟨0, by omega, rfl, (Row10.new w (fun _ => 0)).alloc _, by have := Row10.new (w.alloc (.cells (A10 fun _ => 0) 42)) (fun _ => 0); rw [World.size_alloc] at this; exact this.same (fun j _ => by rw [if_neg (by omega)]), by go_grown⟩
    case round =>
      obtain ⟨k, hk, rfl, HR0, HR1, hb⟩ := hrel
      obtain ⟨wo, rfl⟩ : ∃ wo : World, wo = wr := ⟨_, rfl⟩
      by_cases hlt : k < 10
      · have hd := dT_bd (d := (k : Int)) (T := T) ⟨by omega, by omega⟩ hT
        obtain ⟨hd1, hd2, _⟩ := hd
        have c1 := HR1.out.cell hlt
        have z1 := HR1.out.frozen k
        go_wp2
        go_roundw
        case rel =>
          have HF : ∀ j : Nat, (if j < k + 1 then cb n T (j : Int) else 0) = if j = k then cb n T (k : Int) else (if j < k then cb n T (j : Int) else 0) := fun j => by
            by_cases hj : j = k
            · rw [if_pos (by omega), if_pos hj, hj]
            · rw [if_neg hj]
              by_cases hj2 : j < k
              · rw [if_pos hj2, if_pos (by omega)]
              · rw [if_neg hj2, if_neg (by omega)]
          refine ⟨k + 1, by omega, by go_num, HR0.out.other (by simp) _, ?_, hb.setCell (by simp) _⟩
          show Row10 _ _ _
          exact HR1.out.putv k (cb n T k) (val_int (by unfold cb; first | rfl | omega)) HF
        case measure => simp [intOf]; omega
      · have c0 := (HR1.out.same (f' := fun j => cb n T j) (fun j hj => by rw [if_pos (by omega)])).cell (show 0 < 10 by omega)
        have z0 := HR1.out.frozen 0
        obtain ⟨x, hx⟩ : ∃ x, cb n T ((0 : Nat) : Int) = x := ⟨_, rfl⟩
        rw [hx] at c0
        have hxb : -1000000000000 ≤ x ∧ x ≤ 2000000000000 := by rw [← hx]; unfold cb; omega
        obtain ⟨hx1, hx2⟩ := hxb
        have HX := Lib.hid hx
        clear hx
        obtain ⟨W2, hW2⟩ : ∃ W2, W2 = wo.setCell ⟨w.heap.size + 1, 0, none⟩ (.int .i64 (x - T)) := ⟨_, rfl⟩
        have HW2 := Lib.hid hW2
        have HR3 : Row10 W2 (w.heap.size + 1) (fun j => ca n T j) := by
          rw [hW2]
          refine (HR1.out.same (f' := fun j => cb n T j) (fun j hj => by rw [if_pos (by omega)])).put 0 (x - T) (fun j => ?_)
          have hx := HX.out
          by_cases hj : j = 0
          · subst hj; rw [if_pos rfl, ← hx]; unfold ca cb; rw [if_pos (show ((0 : Nat) : Int) = 0 from rfl)]
          · rw [if_neg hj]; unfold ca cb; rw [if_neg (by omega)]; omega
        have HR4 : Row10 W2 (w.heap.size) (fun _ => 0) := by
          rw [hW2]
          exact HR0.out.other (by simp) _
        obtain ⟨d0, d1, d2, d3, d4, d5, d6, d7, d8, d9, df, ds⟩ := HR3.all
        obtain ⟨m0, m1, m2, m3, m4, m5, m6, m7, m8, m9, mf, ms⟩ := HR4.all
        simp at d0 d1 d2 d3 d4 d5 d6 d7 d8 d9
        have hq := HR4.blk
        have HQ := Lib.hid hq
        clear hW2 hq
        go_wp2_with (rw [← HW2.out])
        refine bodyPost_ret (results_cell_row rfl _ _ w.heap.size 42 (A10 fun d => ca n T d) (0, 0) _ rfl ?_ Try.underlying42 rfl (by kernel_rfl)) rfl ⟨rfl, ?_⟩
        · have hqq := HQ.out
          unfold A10 at hqq
          simp [World.setCell, Array.getElem?_modify, hqq, A10]
        · have hbw : Below w.heap.size w W2 := by rw [HW2.out]; exact hb.setCell (by simp) _
          exact (((((((((hbw.setCell (Nat.le_refl _) _).setCell (Nat.le_refl _) _).setCell (Nat.le_refl _) _).setCell (Nat.le_refl _) _).setCell (Nat.le_refl _) _).setCell (Nat.le_refl _) _).setCell (Nat.le_refl _) _).setCell (Nat.le_refl _) _).setCell (Nat.le_refl _) _).setCell (Nat.le_refl _) _
end Go.Proofs.Ytdgdjgefjhkpbaa
