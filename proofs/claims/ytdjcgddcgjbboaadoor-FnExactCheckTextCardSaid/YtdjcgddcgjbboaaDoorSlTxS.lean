/-
  Texts of small numbers as the model writes them; rows of texts.
-/
import Derived.Test.YtdjcgddcgjbboaaDoorSlTxM
import Derived.Test.YtdjcgddcgjbboaaDoorShelf
import Derived.Sort.Grow
namespace Go.Proofs.YtdjcgddcgjbboaaDoor
open Go.RowKit Go.Deep
set_option maxRecDepth 100000

theorem box2_kept {w w1 : World} {x y : Value} {T : TypeId} (b1 : Below (w.alloc (.cells #[x, y] T)).heap.size (w.alloc (.cells #[x, y] T)) w1) : w1.cell? ⟨w.heap.size, 0, none⟩ = some x ∧ w1.cell? ⟨w.heap.size, 1, none⟩ = some y ∧ w.heap.size < w1.heap.size := by
  have hz := b1.size
  have z1 : (w.alloc (.cells #[x, y] T)).heap.size = w.heap.size + 1 := World.size_alloc _ _
  have h := blk2 (w := w1) (b := w.heap.size) (x := x) (y := y) (T := T) (by rw [b1.block _ (by omega)]; exact (MapKept.heap_alloc _ _).1)
  exact ⟨h.1, h.2.1, by omega⟩
theorem keep2 {w w1 : World} {b : Nat} {x y : Value} (h : b < w.heap.size) (c0 : w.cell? ⟨b, 0, none⟩ = some x) (c1 : w.cell? ⟨b, 1, none⟩ = some y) (k : Below w.heap.size w w1) : w1.cell? ⟨b, 0, none⟩ = some x ∧ w1.cell? ⟨b, 1, none⟩ = some y ∧ b < w1.heap.size :=
  ⟨(k.cell (p := ⟨b, 0, none⟩) h).trans c0, (k.cell (p := ⟨b, 1, none⟩) h).trans c1, by have := k.size; omega⟩

theorem ret_str {a b : ByteArray} (h : a = b) : Ending.returned (.string a) = .returned (.string b) := by rw [h]
theorem num_dx (u : Nat) (x : Int) (w : World) (h9 : u ≤ 9) (hx : x = (u : Int)) :
    Calls Tryd.prog 66 #[.int .i64 x] w fun e w' => e = .returned (.string ⟨[dcx u].toArray⟩) ∧ Below w.heap.size w w' := by
  subst hx
  have hcv : (convert 93 9 (.slice (some ⟨w.heap.size, 0, none⟩) 1 1)).run Tryd.prog (w.alloc (.cells #[.int .u8 (48 + (u : Int))] 5)) = .ok (.string ⟨[dcx u].toArray⟩) (w.alloc (.cells #[.int .u8 (48 + (u : Int))] 5)) :=
    run_convert_bytes_back (P := Tryd.prog) (w.alloc (.cells #[.int .u8 (48 + (u : Int))] 5)) 93 9 5 ⟨w.heap.size, 0, none⟩ 1 [dcx u] Tryd.underlying93 Tryd.underlying5 Tryd.underlying9 (by
      intro j hj
      match j, hj with
      | 0, _ => simp [Addr.add, dcx]; omega)
  go_enter Tryd.func66, Tryd.ntmps66
  go_wp2
  go_ret
  exact ⟨rfl, by go_grown⟩
theorem conv1x (W : World) (b r : Nat) (h9 : r ≤ 9) (h : W.cell? ⟨b, 0, none⟩ = some (.int .u8 (48 + (r : Int)))) :
    (convert 93 9 (.slice (some ⟨b, 0, none⟩) 1 1)).run Tryd.prog W = .ok (.string ⟨[dcx r].toArray⟩) W :=
  run_convert_bytes_back (P := Tryd.prog) W 93 9 5 ⟨b, 0, none⟩ 1 [dcx r] Tryd.underlying93 Tryd.underlying5 Tryd.underlying9 (by
    intro j hj
    match j, hj with
    | 0, _ => simp only [Addr.add] at *; simp [dcx, h]; omega)
theorem keep1x {w w2 : World} {c : Value} (h : Below (w.alloc (.cells #[c] 5)).heap.size (w.alloc (.cells #[c] 5)) w2) : w2.cell? ⟨w.heap.size, 0, none⟩ = some c := by
  rw [h.cell (p := ⟨w.heap.size, 0, none⟩) (by simp)]
  simp
theorem kcx {w w2 : World} {r : Nat} (h9 : r ≤ 9) (h : Below (w.alloc (.cells #[.int .u8 (48 + (r : Int))] 5)).heap.size (w.alloc (.cells #[.int .u8 (48 + (r : Int))] 5)) w2) : (convert 93 9 (.slice (some ⟨w.heap.size, 0, none⟩) 1 1)).run Tryd.prog w2 = .ok (.string ⟨[dcx r].toArray⟩) w2 := conv1x w2 _ r h9 (keep1x h)
theorem kcdx {w w2 : World} {r : Nat} (h9 : r ≤ 9) (h : Below (w.alloc (.cells #[.int .u8 (48 + (r : Int))] 5)).drew.heap.size (w.alloc (.cells #[.int .u8 (48 + (r : Int))] 5)).drew w2) : (convert 93 9 (.slice (some ⟨w.heap.size, 0, none⟩) 1 1)).run Tryd.prog w2 = .ok (.string ⟨[dcx r].toArray⟩) w2 := conv1x w2 _ r h9 (by rw [h.cell (p := ⟨w.heap.size, 0, none⟩) (by simp)]; simp)
theorem kc2x (w2 : World) {r : Nat} (h9 : r ≤ 9) : (convert 93 9 (.slice (some ⟨w2.heap.size, 0, none⟩) 1 1)).run Tryd.prog (w2.alloc (.cells #[.int .u8 (48 + (r : Int))] 5)) = .ok (.string ⟨[dcx r].toArray⟩) (w2.alloc (.cells #[.int .u8 (48 + (r : Int))] 5)) := conv1x _ _ r h9 (by simp)
set_option maxHeartbeats 1000000 in
/-- A number of two digits, as the model writes it. -/
theorem num_2x (q r : Nat) (x : Int) (w : World) (h9 : q ≤ 9) (hr9 : r ≤ 9) (hq1 : 1 ≤ q) (hx : x = 10 * (q : Int) + r) :
    Calls Tryd.prog 66 #[.int .i64 x] w fun e w' => e = .returned (.string ⟨([dcx q] ++ [dcx r]).toArray⟩) ∧ Below w.heap.size w w' := by
  have HI : Hid (∀ W, Calls Tryd.prog 66 #[.int .i64 (q : Int)] W fun e w' => e = .returned (.string ⟨[dcx q].toArray⟩) ∧ Below W.heap.size W w') := fun W => num_dx q _ W h9 rfl
  obtain ⟨D, hD⟩ : ∃ D, D = [dcx q] := ⟨_, rfl⟩
  have hDl : D.length ≤ 13 := by rw [hD]; simp
  rw [← hD] at HI ⊢
  have hx0 : ¬ x < 10 := by omega
  have f1 : IntKind.i64.wrap (x.tdiv 10) = (q : Int) := by rw [Int.tdiv_eq_ediv_of_nonneg (by omega), IntWalk.i64_in] <;> omega
  have f2 : x.tmod 10 = (r : Int) := by rw [Int.tmod_eq_emod_of_nonneg (by omega)]; omega
  have f3 : IntKind.i64.wrap (48 + (r : Int)) = 48 + (r : Int) := by rw [IntWalk.i64_in] <;> omega
  have f4 : IntKind.u8.wrap (48 + (r : Int)) = 48 + (r : Int) := by rw [IntWalk.u8_in] <;> omega
  have g1 : ¬ 9223372036854775807 < D.length + 1 := by omega
  have g2 : D.length + 1 ≤ 9223372036854775807 := by omega
  have g3 : ¬ (9223372036854775807 : Int) < (D.length : Int) + 1 := by omega
  have g4 : (D.length : Int) + 1 ≤ 9223372036854775807 := by omega
  have mixed : Tryd.prog.follows .mixedOrders = true := by kernel_rfl
  have k0 := conv1x (w.alloc (.cells #[.int .u8 (48 + (r : Int))] 5)).drew w.heap.size r hr9 (by simp)
  clear hx hD hq1 h9
  go_enter Tryd.func66, Tryd.ntmps66
  go_wp2
  go_region_with (go_at_call 66; refine (HI.out _).mono ?_; rintro e w2 ⟨rfl, b2⟩; have H2 := chain (w := w) (by go_grown) b2; have HB2 := Lib.hid b2; clear b2; have hk2 := kc2x w2 hr9; first | (have hcv2 := kcdx hr9 HB2.out) | (have hcv2 := kcx hr9 HB2.out) | skip)
  all_goals go_wp2
  all_goals
    go_ret
    have hs2 := H2.size
    exact ⟨ret_str (by first | rfl | (rw [← bytes_two])), by go_grown⟩
/-- A number up to 11, as the model writes it. -/
theorem numX (x : Int) (D : ByteArray) (w : World) (h : 0 ≤ x ∧ x ≤ 11) (hD : D = ⟨(ddx x).toArray⟩) :
    Calls Tryd.prog 66 #[.int .i64 x] w fun e w' => e = .returned (.string D) ∧ Below w.heap.size w w' := by
  subst hD
  by_cases h1 : x.toNat < 10
  · have e : ddx x = [dcx x.toNat] := by unfold ddx; rw [Lib.decDigits, dif_pos h1]; rfl
    rw [e]; exact num_dx x.toNat x w (by omega) (by omega)
  · have e : ddx x = [dcx 1] ++ [dcx (x.toNat % 10)] := by
      unfold ddx
      rw [Lib.decDigits, dif_neg h1, show x.toNat / 10 = 1 by omega, Lib.decDigits, dif_pos (by omega)]; rfl
    rw [e]; exact num_2x 1 (x.toNat % 10) x w (by omega) (by omega) (by omega) (by omega)
theorem itoaX (x : Int) (D : ByteArray) (w : World) (h : 0 ≤ x ∧ x ≤ 11) (hD : D = ⟨(ddx x).toArray⟩) :
    Calls Tryd.prog 54 #[.int .i64 x] w fun e w' => e = .returned (.string D) ∧ w = w' := by
  subst hD
  have := Tryd.strconv_Itoa_small x.toNat (by omega) w
  rw [show ((x.toNat : Nat) : Int) = x by omega] at this
  exact this.mono fun e w' ⟨h1, h2⟩ => ⟨h1, h2.symm⟩
theorem szb (l : List UInt8) : (⟨l.toArray⟩ : ByteArray).size = l.length := by simp [ByteArray.size]
/-- The texts of numbers lie in a row; joined. -/
theorem joinX (xs : List Int) (n bk : Nat) (J : ByteArray) (w : World) (hn : n = xs.length) (h12 : n ≤ 12) (hin : ∀ j, j < xs.length → 0 ≤ xs.getD j 0 ∧ xs.getD j 0 ≤ 11) (hJ : J = ⟨(wtx xs n).toArray⟩) (hbk : bk < w.heap.size)
    (hc : ∀ j, j < n → w.cell? ⟨bk, j, none⟩ = some (.string ⟨(ddx (xs.getD j 0)).toArray⟩)) :
    Calls Tryd.prog 55 #[.slice (some ⟨bk, 0, none⟩) n n, .string ⟨#[44]⟩] w fun e w' => e = .returned (.string J) ∧ Below w.heap.size w w' := by
  subst hn
  have e1 : ((xs.map (fun x => (⟨(ddx x).toArray⟩ : ByteArray))).map (·.data.toList)) = (xs.take xs.length).map ddx := by
    rw [List.take_length, List.map_map]; congr 1
  have hl : (Lib.join ((xs.map (fun x => (⟨(ddx x).toArray⟩ : ByteArray))).map (·.data.toList)) (⟨#[44]⟩ : ByteArray).data.toList) = wtx xs xs.length := by
    rw [e1]; rfl
  have hw := wtx_len hin xs.length (Nat.le_refl _)
  have := Tryd.strings_Join bk 0 xs.length (xs.map (fun x => (⟨(ddx x).toArray⟩ : ByteArray))) ⟨#[44]⟩ w (by
    intro j x hj
    rw [List.getElem?_map] at hj
    by_cases hlt : j < xs.length
    · rw [List.getElem?_eq_getElem hlt] at hj
      simp only [Option.map_some, Option.some.injEq] at hj
      subst hj
      rw [Nat.zero_add, hc j hlt]
      simp [List.getD, List.getElem?_eq_getElem hlt]
    · rw [List.getElem?_eq_none (by omega)] at hj; cases hj) hbk (by rw [List.length_map]; omega) (by rw [List.length_map]; exact Nat.le_refl _) (by rw [hl]; omega)
  rw [hl, List.length_map, ← hJ] at this
  exact this
theorem makeSx (w : World) (N : Nat) (h : N ≤ 1048576) : (Instr.makeSlice 36 (.int .i64 (N : Int)) (.int .i64 (N : Int))).run Tryd.prog w = .ok (.slice (some ⟨w.heap.size, 0, none⟩) N N) (w.alloc (.cells (madeCells #[.string ⟨#[]⟩] N) 9)) :=
  run_make_row' (P := Tryd.prog) 36 9 (.string ⟨#[]⟩) 16 Tryd.underlying36 (by kernel_rfl) rfl .i64 .i64 N (by omega) (by omega) w
def strVx (t : List UInt8) : Value := .string ⟨t.toArray⟩
/-- A value is a slice of these texts, in a row of the call's own from block B on. -/
def Strx (B : Nat) (ts : List (List UInt8)) (v : Value) (w : World) : Prop := w.ownsRow B 9 1 v ts.length (ts.map strVx)
theorem Strx.made (w : World) (N : Nat) (h : N ≤ 1048576) : Strx w.heap.size (List.replicate N []) (.slice (some ⟨w.heap.size, 0, none⟩) N N) (w.alloc (.cells (madeCells #[.string ⟨#[]⟩] N) 9)) := by
  refine ⟨by simp, .inr ⟨w.heap.size, N, madeCells #[.string ⟨#[]⟩] N, by simp, Nat.le_refl _, (MapKept.heap_alloc w _).1, by simp, by unfold maxLen; omega, ?_, ?_⟩⟩
  · rw [size_madeCells]; simp
  · have e : (madeCells #[.string ⟨#[]⟩] N).toList = List.replicate N (.string ⟨#[]⟩) := by
      apply List.ext_getElem
      · simp [size_madeCells]
      · intro i h1 h2
        simp [madeCells, Nat.mod_one]
    rw [e]; simp [strVx]
theorem Strx.store {B : Nat} {ts : List (List UInt8)} {g n cap : Nat} {w : World} (hn : ts.length = n) (h : Strx B ts (.slice (some ⟨g, 0, none⟩) n cap) w) (j : Nat) (t : List UInt8) : Strx B (ts.set j t) (.slice (some ⟨g, 0, none⟩) n cap) (w.setCell ⟨g, j, none⟩ (strVx t)) := by
  subst hn
  have := (World.ownsRow.stored h j (strVx t)).1
  unfold Strx
  rw [List.length_set, List.map_set]; exact this
def ptx (ts : List (List UInt8)) (k : Nat) : List (List UInt8) := ts.take k ++ List.replicate (ts.length - k) []
theorem ptx_zero (ts : List (List UInt8)) : ptx ts 0 = List.replicate ts.length [] := by simp [ptx]
theorem ptx_all (ts : List (List UInt8)) : ptx ts ts.length = ts := by simp [ptx]
theorem ptx_len (ts : List (List UInt8)) (k : Nat) (h : k ≤ ts.length) : (ptx ts k).length = ts.length := by simp [ptx]; omega
theorem ptx_succ (ts : List (List UInt8)) (k : Nat) (h : k < ts.length) : (ptx ts k).set k (ts.getD k []) = ptx ts (k + 1) := by
  unfold ptx
  have e1 : (ts.take k).length = k := by simp; omega
  rw [List.set_append_right _ _ (by omega), e1, Nat.sub_self, show ts.length - k = (ts.length - (k + 1)) + 1 by omega, List.replicate_succ, List.set_cons_zero, List.take_succ_eq_append_getElem h, List.append_assoc]
  simp [List.getD, List.getElem?_eq_getElem h]
end Go.Proofs.YtdjcgddcgjbboaaDoor
