/-
  Numbers with a digit sum: the program's count.
-/
import Derived.Test.YtghjpanabphbpaaDoorDiUm
import Derived.Test.YtghjpanabphbpaaDoorDiCntOf
import Derived.Test.YtghjpanabphbpaaDoorDiSum
import Derived.Test.YtghjpanabphbpaaDoorDiSrch
namespace Go.Proofs.YtghjpanabphbpaaDoor
open Go.RowKit
set_option maxRecDepth 100000

theorem gb_refl (b : Nat) (w : World) : w.grownBy w (some b) := ⟨rfl, rfl, rfl, Nat.le_refl _, fun _ _ _ => rfl⟩
theorem gb_set {b : Nat} {w w' : World} (h : w.grownBy w' (some b)) (v : Value) : w.grownBy (w'.setCell ⟨b, 0, none⟩ v) (some b) :=
  ⟨h.os, h.tape, h.output, by simp [World.setCell]; exact h.size, fun k hk hne => (Below.heap_setCell _ _ _ _ (fun e => hne (by rw [e]))).trans (h.block k hk hne)⟩
theorem gb_irow {b g n : Nat} {f : Nat → Int} {w w' : World} (h : w.grownBy w' (some b)) (r : IRow w g n f) (hne : g ≠ b) : IRow w' g n f := World.rowIs.of_block r (h.block g r.lt (fun e => hne (by cases e; rfl)))
theorem Blk.set0 {w : World} {b : Nat} {v u : Value} {T : TypeId} (h : Blk w b #[v] T) : Blk (w.setCell ⟨b, 0, none⟩ u) b #[u] T := by
  unfold Blk at *
  simp [World.setCell, Array.getElem?_modify, h]
/-- The end of a part of a row of 9 D + 1 counts. -/
def eP (D : Nat) (t : Int) : Int := max 0 (min t (9 * (D : Int)) + 1)
theorem eP_bd (D : Nat) (t : Int) : 0 ≤ eP D t ∧ eP D t ≤ 9 * (D : Int) + 1 := by unfold eP; omega
theorem eP_le (D : Nat) {t u : Int} (h : t ≤ u) : eP D t ≤ eP D u := by unfold eP; omega
/-- The closure. -/
theorem pE_any (D b : Nat) (gi : Nat) (t : Int) (w : World) (hD : D ≤ 12) (ht0 : -1000 ≤ t) (ht : t ≤ 9223372036854775807) (c0 : w.cell? ⟨b, 0, none⟩ = some (.slice (some ⟨gi, 0, none⟩) (9 * D + 1) (9 * D + 1))) :
    Calls Tryd.prog 104 #[.int .i64 t, .pointer (some ⟨b, 0, none⟩)] w fun e w' => e = .returned (.int .i64 (eP D t)) ∧ w = w' := by
  obtain ⟨m, hm⟩ : ∃ m, m = 9 * D + 1 := ⟨_, rfl⟩
  have HZ : Hid (eP D t = max 0 (min t ((m : Int) - 1) + 1)) := by show _ = _; unfold eP; rw [hm]; congr 2; omega
  have hm1 : m ≤ 109 := by omega
  have hm0 : 1 ≤ m := by omega
  rw [← hm] at c0
  have HM := Lib.hid hm
  clear hm hD
  go_enter Tryd.func104, Tryd.ntmps104
  go_wp2
  go_ret
  exact ⟨ret_int HZ.out.symm, rfl⟩
/-- A part of a row. -/
def adP (gi A B : Nat) : Addr := if B = A then ⟨gi, 0, none⟩ else ⟨gi, A, none⟩
theorem sl3 (gi m A B : Nat) (h1 : A ≤ B) (h2 : B ≤ m) (W : World) :
    (Instr.slice 33 (.slice (some ⟨gi, 0, none⟩) m m) (some (.int .i64 (A : Int))) (some (.int .i64 (B : Int))) (some (.int .i64 (B : Int)))).run Tryd.prog W = .ok (.slice (some (adP gi A B)) (B - A) (B - A)) W := by
  rw [run_slice_lhm W 33 (some ⟨gi, 0, none⟩) m m (by kernel_rfl) .i64 .i64 .i64 (A : Int) (B : Int) (B : Int) (by omega) (by omega) (by omega) (by omega)]
  have hsz : (sizeOf (Tryd.prog.elem 33)).run Tryd.prog W = .ok 1 W := by kernel_rfl
  rw [hsz]
  unfold adP
  by_cases h : B = A
  · simp [Result.andThen, sliced, h]
  · simp [Result.andThen, sliced, h, Addr.add]; omega
set_option maxHeartbeats 1000000 in
theorem part_any (D0 D g gi cap : Nat) (a u : Int) (w : World) (hD : D ≤ 12) (hD0 : D ≤ D0) (h1 : -1000 ≤ a) (h2 : a ≤ u) (h3 : u ≤ 9223372036854775807)
    (c0 : w.cell? ⟨g, D, none⟩ = some (.slice (some ⟨gi, 0, none⟩) (9 * D + 1) (9 * D + 1))) :
    Calls Tryd.prog 91 #[.slice (some ⟨g, 0, none⟩) (D0 + 1) cap, .int .i64 (D : Int), .int .i64 a, .int .i64 u] w fun e w' => e = .returned (.slice (some (adP gi (eP D a).toNat (eP D u).toNat)) ((eP D u).toNat - (eP D a).toNat) ((eP D u).toNat - (eP D a).toNat)) ∧ Below w.heap.size w w' := by
  have ha := eP_bd D a
  have hu := eP_bd D u
  have hau := eP_le D h2
  obtain ⟨A, hA⟩ : ∃ A : Nat, eP D a = (A : Int) := ⟨(eP D a).toNat, by omega⟩
  obtain ⟨U, hU⟩ : ∃ U : Nat, eP D u = (U : Int) := ⟨(eP D u).toNat, by omega⟩
  rw [hA, hU, Int.toNat_natCast, Int.toNat_natCast]
  have hsl : ∀ W, (Instr.slice 33 (.slice (some ⟨gi, 0, none⟩) (9 * D + 1) (9 * D + 1)) (some (.int .i64 (A : Int))) (some (.int .i64 (U : Int))) (some (.int .i64 (U : Int)))).run Tryd.prog W = .ok (.slice (some (adP gi A U)) (U - A) (U - A)) W := fun W => sl3 gi (9 * D + 1) A U (by omega) (by omega) W
  obtain ⟨m, hm⟩ : ∃ m, m = 9 * D + 1 := ⟨_, rfl⟩
  have HE1 : Hid (∀ (b : Nat) (W : World), W.cell? ⟨b, 0, none⟩ = some (.slice (some ⟨gi, 0, none⟩) m m) → Calls Tryd.prog 104 #[.int .i64 a, .pointer (some ⟨b, 0, none⟩)] W fun e w' => e = .returned (.int .i64 (A : Int)) ∧ W = w') := fun b W hc => by
    rw [← hA]; exact pE_any D b gi a W hD h1 (by omega) (by rw [← hm]; exact hc)
  have HE2 : Hid (∀ (b : Nat) (W : World), W.cell? ⟨b, 0, none⟩ = some (.slice (some ⟨gi, 0, none⟩) m m) → Calls Tryd.prog 104 #[.int .i64 u, .pointer (some ⟨b, 0, none⟩)] W fun e w' => e = .returned (.int .i64 (U : Int)) ∧ W = w') := fun b W hc => by
    rw [← hU]; exact pE_any D b gi u W hD (by omega) h3 (by rw [← hm]; exact hc)
  rw [← hm] at c0 hsl
  have e55 : ∀ args w, (callFunc 104 args).run Tryd.prog w = .ok (.enter 104 args) w := enters_of Tryd.func104 (by kernel_rfl) rfl
  have hDl : (D : Int) < (D0 : Int) + 1 := by omega
  obtain ⟨x, hx⟩ : ∃ x, x = U - A := ⟨_, rfl⟩
  rw [← hx] at hsl ⊢
  obtain ⟨ad, had⟩ : ∃ ad, ad = adP gi A U := ⟨_, rfl⟩
  rw [← had] at hsl ⊢
  have F0 := Blk.new w #[.slice (some ⟨gi, 0, none⟩) m m] 33
  have C1 : Hid ((w.alloc (.cells #[.slice (some ⟨gi, 0, none⟩) m m] 33)).cell? ⟨w.heap.size, 0, none⟩ = some (.slice (some ⟨gi, 0, none⟩) m m)) := F0.cell 0
  have mixed : Tryd.prog.follows .mixedOrders = true := by kernel_rfl
  clear ha hu hau hA hU hm hx had F0
  go_enter Tryd.func91, Tryd.ntmps91
  go_wp2
  go_region_held3 (fun w' => w'.cell? ⟨w.heap.size, 0, none⟩ = some (.slice (some ⟨gi, 0, none⟩) m m))
    (first | go_keep | exact C1.out | assumption)
    (first | (go_at_fn 104; (with_reducible refine (HE1.out _ _ (by assumption)).mono ?_); rintro e w' ⟨rfl, rfl⟩) | (go_at_fn 104; (with_reducible refine (HE2.out _ _ (by assumption)).mono ?_); rintro e w' ⟨rfl, rfl⟩) | fail)
  all_goals go_wp2
  all_goals go_ret
  all_goals exact ⟨rfl, by go_grown⟩
set_option maxHeartbeats 1000000 in
/-- The closure that adds up. -/
theorem adC_any (b n g o : Nat) (ad : Addr) (f : Nat → Int) (c : Int) (w : World) (had : 0 < n → ad = ⟨g, o, none⟩) (hn : n ≤ 1000) (hf : ∀ i, i < n → w.cell? ⟨g, o + i, none⟩ = some (.int .i64 (f i))) (hne : g ≠ b)
    (F : Blk w b #[.int .i64 c] 3) (hb : ∀ i, i < n → -1000000000000 ≤ f i ∧ f i ≤ 1000000000000) (hc : -1000000000000000 ≤ c ∧ c ≤ 1000000000000000) :
    Calls Tryd.prog 90 #[.slice (some ad) n n, .pointer (some ⟨b, 0, none⟩)] w fun e w' => e = .returned (.tuple #[]) ∧ Blk w' b #[.int .i64 (c + sumTo n f)] 3 ∧ w.grownBy w' (some b) := by
  have HF := Lib.hid hf
  have HB := Lib.hid hb
  have HAD := Lib.hid had
  have HSB : Hid (∀ k, k ≤ n → -1000000000000 * (k : Int) ≤ sumTo k f ∧ sumTo k f ≤ 1000000000000 * (k : Int)) := by
    intro k
    induction k with
    | zero => intro _; simp [sumTo]
    | succ k ih => intro hk; have := ih (by omega); have := hb k (by omega); rw [sumTo_succ]; omega
  obtain ⟨hc0, hc1⟩ := hc
  clear hf hb had
  go_enter Tryd.func90, Tryd.ntmps90
  go_wp2
  go_loopw [7] (fun kv wr => ∃ (k : Nat) (S : Int), k ≤ n ∧ kv = .int .i64 k ∧ Hid (S = sumTo k f) ∧ Hid (Blk wr b #[.int .i64 (c + S)] 3) ∧ Hid (w.grownBy wr (some b))) (fun kv _ => n - (intOf kv).toNat)
  case atStart => exact ⟨0, 0, by omega, rfl, rfl, by show Blk _ _ _ _; rw [Int.add_zero]; exact F, gb_refl _ _⟩
  case round =>
    obtain ⟨k, S, hk, rfl, HS, HK, HG⟩ := hrel
    obtain ⟨wo, rfl⟩ : ∃ wo : World, wo = wr := ⟨_, rfl⟩
    have hsb := HSB.out k hk
    rw [← HS.out] at hsb
    obtain ⟨hs0, hs1⟩ := hsb
    by_cases hlt : k < n
    · have ha : ad = ⟨g, o, none⟩ := HAD.out (by omega)
      subst ha
      have hcell : w.cell? ⟨g, o + k, none⟩ = some (.int .i64 (f k)) := HF.out k hlt
      have hgl : g < w.heap.size := by
        rcases Nat.lt_or_ge g w.heap.size with h | h
        · exact h
        · unfold World.cell? at hcell
          rw [Array.getElem?_eq_none (by exact h)] at hcell
          cases hcell
      have d0 : wo.cell? ⟨g, o + k, none⟩ = some (.int .i64 (f k)) := by
        rw [World.cell?_of_block (w := w) (HG.out.block g hgl (fun e => hne (by cases e; rfl)))]; exact hcell
      have d1 := HK.out.cell 0
      have z1 := HK.out.frozen 0
      simp at d1
      have hfb := HB.out k hlt
      obtain ⟨y, hy⟩ : ∃ y, f k = y := ⟨_, rfl⟩
      rw [hy] at hfb d0
      obtain ⟨hy0, hy1⟩ := hfb
      have HS' : Hid (S + y = sumTo (k + 1) f) := by show _ = _; rw [sumTo_succ, HS.out, hy]
      have HK' : Hid (Blk (wo.setCell ⟨b, 0, none⟩ (.int .i64 (c + S + y))) b #[.int .i64 (c + (S + y))] 3) := by
        show Blk _ _ _ _
        rw [show c + (S + y) = c + S + y by omega]
        exact HK.out.set0
      have HG' := Lib.hid (gb_set HG.out (.int .i64 (c + S + y)))
      clear hcell hy hgl
      go_wp2
      go_roundw
      case rel => exact ⟨k + 1, S + y, by omega, by go_num, HS', HK', HG'⟩
      case measure => simp [intOf]; omega
    · have HV : Hid (Blk wo b #[.int .i64 (c + sumTo n f)] 3) := by show Blk _ _ _ _; rw [show n = k by omega, ← HS.out]; exact HK.out
      go_wp2
      go_end0
      exact ⟨rfl, HV.out, HG.out⟩
end Go.Proofs.YtghjpanabphbpaaDoor
