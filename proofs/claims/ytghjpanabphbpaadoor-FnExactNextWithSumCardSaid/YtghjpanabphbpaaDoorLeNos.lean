/-
  Least numbers: the program's search for a number of a sum by its rank.
-/
import Derived.Test.YtghjpanabphbpaaDoorDiNs
namespace Go.Proofs.YtghjpanabphbpaaDoor
open Go.RowKit
set_option maxRecDepth 100000

/-- Are more counted? -/
def moB (u r n : Int) : Bool := decide (r < uc u n)
set_option maxHeartbeats 1000000 in
theorem nosC_any (n u r : Int) (v : Value) (B b3 b4 b5 : Nat) (w : World) (h0 : 0 ≤ n) (h1 : n ≤ 1000000000000) (hu0 : 0 ≤ u) (hu1 : u ≤ 9223372036854775807) (hC : Cnts w v 12 B) (htab : Tab w)
    (F3 : Blk w b3 #[v] 46) (F4 : Blk w b4 #[.int .i64 u] 3) (F5 : Blk w b5 #[.int .i64 r] 3) :
    Calls Tryd.prog 93 #[.int .i64 n, .pointer (some ⟨b3, 0, none⟩), .pointer (some ⟨b4, 0, none⟩), .pointer (some ⟨b5, 0, none⟩)] w fun e w' => e = .returned (.bool (moB u r n)) ∧ Below w.heap.size w w' := by
  have HN := Lib.hid (fun W (hW : Below w.heap.size w W) => numbersOfSum_any n u v B W h0 h1 hu0 hu1 (hC.below hW) (htab.keep hW))
  have HZ : Hid (moB u r n = decide (uc u n > r)) := rfl
  obtain ⟨g, cap, hv, _⟩ := hC
  have HF3 := Lib.hid F3
  have HF4 := Lib.hid F4
  have HF5 := Lib.hid F5
  have c3 := F3.cell 0
  have c4 := F4.cell 0
  have c5 := F5.cell 0
  simp at c3 c4 c5
  subst hv
  have c3' : w.cell? ⟨b3, 0, none⟩ = some (.slice (some ⟨g, 0, none⟩) 13 cap) := c3
  have mixed : Tryd.prog.follows .mixedOrders = true := by kernel_rfl
  clear F3 F4 F5 htab c3
  go_enter Tryd.func93, Tryd.ntmps93
  go_wp2
  go_region_held3 (fun w' => w'.cell? ⟨b3, 0, none⟩ = some (.slice (some ⟨g, 0, none⟩) 13 cap) ∧ w'.cell? ⟨b4, 0, none⟩ = some (.int .i64 u) ∧ w'.cell? ⟨b5, 0, none⟩ = some (.int .i64 r))
    (first | go_keep | exact ⟨e3, e4, e5⟩)
    (first | (go_at_call 71; (refine (HN.out _ (by go_grown)).mono ?_); rintro e w1 ⟨rfl, b1⟩; have B1 : Below w.heap.size w w1 := chain (w := w) (by go_grown) b1; have e3 : w1.cell? ⟨b3, 0, none⟩ = some (.slice (some ⟨g, 0, none⟩) 13 cap) := (HF3.out.keep B1).cell 0; have e4 : w1.cell? ⟨b4, 0, none⟩ = some (.int .i64 u) := (HF4.out.keep B1).cell 0; have e5 : w1.cell? ⟨b5, 0, none⟩ = some (.int .i64 r) := (HF5.out.keep B1).cell 0) | fail)
  all_goals go_wp2
  all_goals go_ret
  all_goals exact ⟨ret_bool (by rw [HZ.out]), by go_grown⟩
set_option maxHeartbeats 1000000 in
theorem nos_any (u r : Int) (v : Value) (B : Nat) (w : World) (hu0 : 0 ≤ u) (hu1 : u ≤ 9223372036854775807) (hC : Cnts w v 12 B) (htab : Tab w) :
    Calls Tryd.prog 72 #[v, .int .i64 u, .int .i64 r] w fun e w' => (∃ (h : Int) (ok : Bool), e = .returned (.tuple #[.int .i64 h, .bool ok]) ∧ LeastIs (moB u r) 1 1000000000000 h ok) ∧ Below w.heap.size w w' := by
  obtain ⟨g, cap, hv, _⟩ := hC
  have hX : Below w.heap.size w (((w.alloc (.cells #[v] 46)).alloc (.cells #[.int .i64 u] 3)).alloc (.cells #[.int .i64 r] 3)) := by go_grown
  have F3 := ((Blk.new w #[v] 46).alloc (.cells #[.int .i64 u] 3)).alloc (.cells #[.int .i64 r] 3)
  have F4 := (Blk.new (w.alloc (.cells #[v] 46)) #[.int .i64 u] 3).alloc (.cells #[.int .i64 r] 3)
  have F5 := Blk.new ((w.alloc (.cells #[v] 46)).alloc (.cells #[.int .i64 u] 3)) #[.int .i64 r] 3
  have HL : Hid (Calls Tryd.prog 92 #[.int .i64 1, .int .i64 1000000000000, .func (.func 93) #[] #[.pointer (some ⟨w.heap.size, 0, none⟩), .pointer (some ⟨w.heap.size + 1, 0, none⟩), .pointer (some ⟨w.heap.size + 1 + 1, 0, none⟩)]] (((w.alloc (.cells #[v] 46)).alloc (.cells #[.int .i64 u] 3)).alloc (.cells #[.int .i64 r] 3)) fun e w' => (∃ (h : Int) (ok : Bool), e = .returned (.tuple #[.int .i64 h, .bool ok]) ∧ LeastIs (moB u r) 1 1000000000000 h ok) ∧ Below w.heap.size w w') := by
    simp only [World.size_alloc] at F4 F5
    refine (leastIn_any 1 1000000000000 93 _ (moB u r) _ (by omega) (by omega) (by omega) (enters_of Tryd.func93 (by kernel_rfl) rfl) ?_ ?_).mono ?_
    · intro h W hx hy hW
      have hWw := hX.trans (hW.mono hX.size)
      exact nosC_any h u r v B _ _ _ W (by omega) hy hu0 hu1 (Cnts.below ⟨g, cap, hv, by assumption⟩ hWw) (htab.keep hWw) (F3.keep hW) (F4.keep hW) (F5.keep hW)
    · intro x y hx hxy hy h
      unfold moB at *
      simp only [decide_eq_true_eq] at *
      have := uc_mono (s := u) hxy hy
      omega
    rintro e w1 ⟨h, b1⟩
    exact ⟨h, hX.trans (b1.mono hX.size)⟩
  subst hv
  clear hX F3 F4 F5 htab
  go_enter Tryd.func72, Tryd.ntmps72
  go_wp2_with (go_at_call 92; go_must (refine HL.out.mono ?_; rintro e w1 ⟨⟨h, ok, rfl, hl⟩, b1⟩; have HL2 := Lib.hid hl; clear hl))
  go_ret2
  exact ⟨⟨h, ok, rfl, HL2.out⟩, b1⟩
theorem nsum_bd (n : Int) (h0 : 0 ≤ n) (h1 : n ≤ 1000000000000) : 0 ≤ nsum n ∧ nsum n ≤ 1000000000000 := by
  have := nsum_le n.toNat
  unfold nsum; omega
end Go.Proofs.YtghjpanabphbpaaDoor
