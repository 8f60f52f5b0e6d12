/-
  Slices of texts that begin behind the first one of a row: compared, marked, held.
-/
import Derived.Test.YtkeedoieadlbdabDoorPlMark
import Derived.Test.YtkeedoieadlbdabDoorPlEq
namespace Go.Proofs.YtkeedoieadlbdabDoor
open Go.RowKit

theorem Strs.tailRd {B g n cw cap : Nat} {d : List UInt8} {ts : List (List UInt8)} {w : World} (hn : ts.length = n) (h : Strs B (d :: ts) (.slice (some ⟨g, 0, none⟩) (n + 1) cw) w) : Rd ts (.slice (some ⟨g, 1, none⟩) n cap) w := by
  subst hn
  have hg := h.baseLe.2
  have h' := h
  unfold Strs at h'
  rw [List.length_cons] at h'
  refine ⟨_, cap, rfl, fun i hi => ⟨g, 1, rfl, hg, ?_⟩⟩
  rw [Nat.add_comm 1 i, h'.cellAt (i + 1) (by omega)]
  simp [List.getElem?_eq_getElem hi]
set_option maxHeartbeats 800000 in
theorem eqStrs_rd (ts : List (List UInt8)) (v u : Value) (w : World) (hn : ts.length ≤ 5000000) (h1 : Rd ts v w) (h2 : Rd ts u w) :
    Calls Tryd.prog 13 #[v, u] w fun e w' => e = .returned (.bool true) ∧ ∃ n, w' = w.drewN n := by
  obtain ⟨n, hnn⟩ : ∃ n, n = ts.length := ⟨_, rfl⟩
  obtain ⟨a1, cap1, rfl, hc⟩ := h1
  obtain ⟨a2, cap2, rfl, hc2⟩ := h2
  rw [← hnn] at hn hc hc2 ⊢
  clear hnn
  have HC := Lib.hid hc
  have HC2 := Lib.hid hc2
  clear hc hc2
  go_enter Tryd.func13, Tryd.ntmps13
  go_wp2
  go_loopw [5] (fun i wr => ∃ k q : Nat, k ≤ n ∧ i = .int .i64 k ∧ wr = w.drewN q) (fun i _ => n - (intOf i).toNat)
  case atStart => exact ⟨0, 0, Nat.zero_le _, rfl, rfl⟩
  case round =>
    obtain ⟨k, q, hk, rfl, rfl⟩ := hrel
    by_cases hlt : k < n
    · obtain ⟨g, o, rfl, _, d1⟩ := HC.out k hlt
      obtain ⟨g2, o2, rfl, _, d2⟩ := HC2.out k hlt
      unfold strV at d1 d2
      obtain ⟨b, hb⟩ : ∃ b : ByteArray, b = ⟨(ts.getD k []).toArray⟩ := ⟨_, rfl⟩
      rw [← hb] at d1 d2
      have hk0 : (0 : Int) ≤ (k : Int) := by omega
      have hk1 : (k : Int) < (n : Int) := by omega
      clear hb
      go_wp2
      go_quiet (fail)
      go_wp2
      go_roundw
      case rel => exact ⟨k + 1, q + nq, by omega, by go_num, rfl⟩
      case measure => simp [intOf]; omega
    · go_wp2
      go_ret
      exact ⟨rfl, q, rfl⟩
theorem eqScheme_rd (P B : ByteArray) (ts : List (List UInt8)) (v u : Value) (w : World) (hn : ts.length ≤ 1048576) (h1 : Rd ts v w) (h2 : Rd ts u w) :
    Calls Tryd.prog 6 #[.agg #[.string P, .string B, v], .agg #[.string P, .string B, u]] w fun e w' => e = .returned (.bool true) ∧ Below w.heap.size w w' := by
  have H1 := Lib.hid h1
  have H2 := Lib.hid h2
  clear h1 h2
  go_enter Tryd.func6, Tryd.ntmps6
  go_wp2_with (go_at_call 13; go_must ((with_reducible refine (eqStrs_rd ts _ _ _ (by omega) (H1.out.below (by go_grown)) (H2.out.below (by go_grown))).mono ?_); rintro e w1 ⟨rfl, n, rfl⟩))
  go_ret
  exact ⟨rfl, below_drewN (by go_grown) n⟩
set_option maxRecDepth 100000 in
set_option maxHeartbeats 2000000 in
theorem smarkO (g n cap cw : Nat) (d : List UInt8) (ts : List (List UInt8)) (k0 : Nat) (w : World) (hnn : n = ts.length) (hn : n ≤ 1048576) (hk0 : 1 ≤ k0 ∧ k0 ≤ 1000) (h1 : Strs g (d :: ts) (.slice (some ⟨g, 0, none⟩) (n + 1) cw) w) :
    Calls Tryd.prog 14 #[.slice (some ⟨g, 1, none⟩) n cap, .int .i64 k0] w fun e w' => e = .returned (.int .i64 ((k0 : Int) + n)) ∧ Strs g (d :: smarks k0 n) (.slice (some ⟨g, 0, none⟩) (n + 1) cw) w' ∧ But g w w' := by
  obtain ⟨hk1, hk2⟩ := hk0
  have H1 := Lib.hid h1
  have hg : g < w.heap.size := h1.baseLe.2
  have HN := Lib.hid hnn
  clear hnn h1
  go_enter Tryd.func14, Tryd.ntmps14
  go_wp2
  go_loopw [1, 5] (fun kv i wr => ∃ k : Nat, k ≤ n ∧ i = .int .i64 k ∧ kv = .int .i64 ((k0 : Int) + k) ∧ Hid (Strs g (d :: smarked k0 ts k) (.slice (some ⟨g, 0, none⟩) (n + 1) cw) wr) ∧ Hid (But g w wr) ∧ g < wr.heap.size ∧ w.heap.size ≤ wr.heap.size) (fun _ i _ => n - (intOf i).toNat)
  case atStart => exact ⟨0, Nat.zero_le _, rfl, by simp, by show Strs _ _ _ _; rw [smarked_zero]; exact H1.out, But.refl _ _, hg, Nat.le_refl _⟩
  case round =>
    obtain ⟨k, hk, rfl, rfl, hI, HBT, hgs, hws⟩ := hrel
    have hlen : (smarked k0 ts k).length = n := by rw [smarked_len _ _ _ (by rw [← HN.out]; exact hk), ← HN.out]
    by_cases hlt : k < n
    · have HLN := Lib.hid hlen
      obtain ⟨kk, hkk⟩ : ∃ kk : Nat, (k0 : Int) + (k : Int) = (kk : Int) := ⟨k0 + k, by omega⟩
      have hkk1 : 1 ≤ kk := by omega
      have hkk2 : kk ≤ 5000000 := by omega
      have HKK : Hid (kk = k0 + k) := by show _ = _; omega
      rw [hkk]
      have HE := Lib.hid (smarked_succ k0 ts k (by rw [← HN.out]; exact hlt))
      clear hlen
      go_wp2_with (go_at_call 23; go_must ((with_reducible refine (markText_any kk _ hkk1 hkk2).mono ?_); rintro e w1 ⟨rfl, b1⟩; have hI1 := Lib.hid (hI.out.below b1); have hff : w1.frozen? ⟨g, 1 + k, none⟩ = false := (by have h := hI1.out; unfold Strs at h; rw [List.length_cons, HLN.out] at h; exact h.frozenAt (1 + k)); have hcc : w1.cell? ⟨g, 1 + k, none⟩ = some (strV ((smarked k0 ts k).getD k [])) := (by have h := hI1.out; unfold Strs at h; rw [List.length_cons, HLN.out] at h; rw [h.cellAt (1 + k) (by omega), Nat.add_comm 1 k]; simp [List.getElem?_eq_getElem (show k < (smarked k0 ts k).length by rw [HLN.out]; exact hlt)]); have hz1 := b1.size))
      have HS := Lib.hid (Strs.store (by rw [List.length_cons, HLN.out]) hI1.out (1 + k) (mkt kk))
      go_roundw
      case rel => exact ⟨k + 1, by omega, by go_num, val_int (by omega), by show Strs _ _ _ _; rw [← HE.out, ← HKK.out, ← List.set_cons_succ, Nat.add_comm k 1]; exact HS.out, (HBT.out.trans (But.of b1)).setCell _ _, by simp [World.setCell]; omega, by simp [World.setCell]; omega⟩
      case measure => simp [intOf]; omega
    · have HK : Hid (k = n) := by show _ = _; omega
      go_wp2
      go_ret
      exact ⟨ret_int (by rw [HK.out]), by
        have e : smarks k0 n = smarked k0 ts k := by rw [HK.out, HN.out, smarked_all]
        rw [e]; exact hI.out, HBT.out⟩
theorem markO_any (P B : ByteArray) (g n cap cw : Nat) (d : List UInt8) (ts : List (List UInt8)) (w : World) (hnn : n = ts.length) (hn : n ≤ 1048576) (h1 : Strs g (d :: ts) (.slice (some ⟨g, 0, none⟩) (n + 1) cw) w) :
    Calls Tryd.prog 7 #[.agg #[.string P, .string B, .slice (some ⟨g, 1, none⟩) n cap], .int .i64 1] w fun e w' => e = .returned (.int .i64 (1 + (n : Int))) ∧ Strs g (d :: smarks 1 n) (.slice (some ⟨g, 0, none⟩) (n + 1) cw) w' ∧ But g w w' := by
  have H1 := Lib.hid h1
  have HN := Lib.hid hnn
  clear h1 hnn
  have hb : Below w.heap.size w (w.alloc (.cells #[.string P, .string B, .slice (some ⟨g, 1, none⟩) n cap] 24)) := (Below.refl _ _).alloc (Nat.le_refl _) _
  have hc := smarkO g n cap cw d ts 1 _ HN.out hn (by omega) (H1.out.below hb)
  rw [show ((1 : Nat) : Int) = 1 from rfl] at hc
  go_enter Tryd.func7, Tryd.ntmps7
  go_wp2_with (go_at_call 14; go_must ((with_reducible refine hc.mono ?_); rintro e w1 ⟨rfl, hs1, hb1⟩))
  go_ret
  exact ⟨rfl, hs1, (But.of hb).trans hb1⟩
set_option maxHeartbeats 2000000 in
theorem sheld_rd (n : Nat) (v : Value) (k0 : Nat) (w : World) (hn : n ≤ 1000) (hk0 : 1 ≤ k0 ∧ k0 ≤ 1000) (h1 : Rd (smarks k0 n) v w) :
    Calls Tryd.prog 15 #[v, .int .i64 k0] w fun e w' => e = .returned (.int .i64 ((k0 : Int) + n)) ∧ Below w.heap.size w w' := by
  obtain ⟨hk1, hk2⟩ := hk0
  obtain ⟨a, cap, rfl, hc⟩ := h1
  rw [smarks_len] at hc ⊢
  have HC : Hid (∀ i, i < n → ∃ g o, a = some ⟨g, o, none⟩ ∧ g < w.heap.size ∧ w.cell? ⟨g, o + i, none⟩ = some (.string ⟨(mkt (k0 + i)).toArray⟩)) := fun i hi => by
    obtain ⟨g, o, h1, h2, h3⟩ := hc i hi
    exact ⟨g, o, h1, h2, by rw [h3, smarks_get k0 n i hi]; rfl⟩
  clear hc
  have mixed : Tryd.prog.follows .mixedOrders = true := by kernel_rfl
  go_enter Tryd.func15, Tryd.ntmps15
  go_wp2
  go_loopw [1, 5] (fun kv i wr => ∃ k : Nat, k ≤ n ∧ i = .int .i64 k ∧ kv = .int .i64 ((k0 : Int) + k) ∧ Below w.heap.size w wr) (fun _ i _ => n - (intOf i).toNat)
  case atStart => exact ⟨0, Nat.zero_le _, rfl, by simp, Below.refl _ _⟩
  case round =>
    obtain ⟨k, hk, rfl, rfl, hb⟩ := hrel
    have hbs := hb.size
    by_cases hlt : k < n
    · obtain ⟨kk, hkk⟩ : ∃ kk : Nat, (k0 : Int) + (k : Int) = (kk : Int) := ⟨k0 + k, by omega⟩
      have hkk1 : 1 ≤ kk := by omega
      have hkk2 : kk ≤ 5000000 := by omega
      have HKK : Hid (kk = k0 + k) := by show _ = _; omega
      obtain ⟨g, o, rfl, hg, hgc⟩ := HC.out k hlt
      have hcc : wr.cell? ⟨g, o + k, none⟩ = some (.string ⟨(mkt kk).toArray⟩) := by
        rw [hb.cell (p := ⟨g, o + k, none⟩) hg, hgc, HKK.out]
      rw [hkk]
      have hj0 : (0 : Int) ≤ (k : Int) := by omega
      have hj4 : (k : Int) < (n : Int) := by omega
      have HGW : Hid (g < wr.heap.size) := by show _ < _; omega
      clear hgc
      go_wp2
      go_region_with (go_at_call 23; go_must ((with_reducible refine (markText_any kk _ hkk1 hkk2).mono ?_); rintro e w1 ⟨rfl, b1⟩; have b2 : Below wr.heap.size wr w1 := chain (w := wr) (by go_grown) b1; have hcc1 : w1.cell? ⟨g, o + k, none⟩ = some (.string ⟨(mkt kk).toArray⟩) := (b2.cell (p := ⟨g, o + k, none⟩) HGW.out).trans hcc))
      all_goals go_wp2
      all_goals
        go_roundw
        case rel => exact ⟨k + 1, by omega, by go_num, val_int (by omega), hb.trans (b2.mono hbs)⟩
        case measure => simp [intOf]; omega
    · have HK : Hid (k = n) := by show _ = _; omega
      go_wp2
      go_ret
      exact ⟨ret_int (by rw [HK.out]), hb⟩
theorem heldRd_any (P B : ByteArray) (n : Nat) (v : Value) (w : World) (hn : n ≤ 1000) (h1 : Rd (smarks 1 n) v w) :
    Calls Tryd.prog 8 #[.agg #[.string P, .string B, v], .int .i64 1] w fun e w' => e = .returned (.int .i64 (1 + (n : Int))) ∧ Below w.heap.size w w' := by
  have H1 := Lib.hid h1
  clear h1
  have hb : Below w.heap.size w (w.alloc (.cells #[.string P, .string B, v] 24)) := (Below.refl _ _).alloc (Nat.le_refl _) _
  have hc := sheld_rd n v 1 _ hn (by omega) (H1.out.below hb)
  have hng : ¬ (1 : Int) + (n : Int) < 0 := by omega
  rw [show ((1 : Nat) : Int) = 1 from rfl] at hc
  go_enter Tryd.func8, Tryd.ntmps8
  go_wp2_with (go_at_call 15; go_must ((with_reducible refine hc.mono ?_); rintro e w1 ⟨rfl, hb1⟩))
  go_ret
  exact ⟨rfl, chain hb hb1⟩
end Go.Proofs.YtkeedoieadlbdabDoor
