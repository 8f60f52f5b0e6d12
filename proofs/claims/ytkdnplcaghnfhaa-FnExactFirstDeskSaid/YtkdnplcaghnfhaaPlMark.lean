/-
  Schemes marked and held by the law.
-/
import Derived.Test.YtkdnplcaghnfhaaPlTo
namespace Go.Proofs.Ytkdnplcaghnfhaa
open Go.RowKit

theorem Strs.self {B g n cap : Nat} {ts : List (List UInt8)} {w : World} (h : Strs B ts (.slice (some ⟨g, 0, none⟩) n cap) w) : Strs g ts (.slice (some ⟨g, 0, none⟩) n cap) w := by
  refine ⟨h.1, ?_⟩
  rcases h.2 with h0 | ⟨g', cap', cur, hv, hb, r⟩
  · exact .inl h0
  · simp only [Value.slice.injEq, Option.some.injEq, Addr.mk.injEq] at hv
    obtain ⟨⟨rfl, _⟩, rfl, rfl⟩ := hv
    exact .inr ⟨g, cap, cur, rfl, Nat.le_refl _, r⟩
theorem Strs.baseLe {B g n cap : Nat} {ts : List (List UInt8)} {w : World} (h : Strs B ts (.slice (some ⟨g, 0, none⟩) n cap) w) : B ≤ g ∧ g < w.heap.size := by
  rcases h.2 with ⟨h0, _⟩ | ⟨g', cap', cur, hv, hb, hg, r⟩
  · cases h0
  · simp only [Value.slice.injEq, Option.some.injEq, Addr.mk.injEq] at hv
    obtain ⟨⟨rfl, _⟩, rfl, rfl⟩ := hv
    exact ⟨hb, (Array.getElem?_eq_some_iff.1 hg).1⟩
/-- Nothing but one row has turned. -/
def But (g : Nat) (w w' : World) : Prop := w.grownBy w' (some g)
theorem But.of {g : Nat} {w w' : World} (k : Below w.heap.size w w') : But g w w' := ⟨k.os, k.tape, k.output, k.size, fun i hi _ => k.block i hi⟩
theorem But.trans {g : Nat} {a b c : World} (h : But g a b) (k : But g b c) : But g a c :=
  ⟨k.os.trans h.os, k.tape.trans h.tape, k.output.trans h.output, Nat.le_trans h.size k.size, fun i hi hne => (k.block i (Nat.lt_of_lt_of_le hi h.size) hne).trans (h.block i hi hne)⟩
theorem But.refl (g : Nat) (w : World) : But g w w := But.of (Below.refl _ _)
theorem But.setCell {g : Nat} {w w' : World} (h : But g w w') (i : Nat) (v : Value) : But g w (w'.setCell ⟨g, i, none⟩ v) := by
  refine ⟨h.os, h.tape, h.output, by simpa [World.setCell] using h.size, fun k hk hne => ?_⟩
  rw [Below.heap_setCell _ _ _ _ (fun e => hne (by rw [e]))]
  exact h.block k hk hne
theorem But.below {g : Nat} {w w' : World} (h : But g w w') {B : Nat} {w0 : World} (k : Below B w0 w) (hB : B ≤ g) (hB2 : B ≤ w.heap.size) : Below B w0 w' := by
  refine ⟨h.os.trans k.os, h.tape.trans k.tape, h.output.trans k.output, Nat.le_trans k.size h.size, fun i hi => ?_⟩
  rw [h.block i (by omega) (fun e => by cases e; omega)]
  exact k.block i hi
theorem But.cell {g : Nat} {w w' : World} (h : But g w w') {a : Addr} (ha : a.block < w.heap.size) (hne : a.block ≠ g) : w'.cell? a = w.cell? a := by
  have e : w'.heap[a.block]? = w.heap[a.block]? := h.block a.block ha (fun e => hne (by cases e; rfl))
  unfold World.cell?; rw [e]
theorem But.rd {g : Nat} {w w' : World} (h : But g w w') {C n cap : Nat} {ts : List (List UInt8)} {k : Nat} (hs : Strs C ts (.slice (some ⟨k, 0, none⟩) n cap) w) (hne : k ≠ g) : Strs C ts (.slice (some ⟨k, 0, none⟩) n cap) w' := by
  refine ⟨hs.1, ?_⟩
  rcases hs.2 with h0 | ⟨g', cap', cur, hv, hb, hg, r⟩
  · exact .inl h0
  · simp only [Value.slice.injEq, Option.some.injEq, Addr.mk.injEq] at hv
    obtain ⟨⟨rfl, _⟩, rfl, rfl⟩ := hv
    refine .inr ⟨k, cap, cur, rfl, hb, ?_, r⟩
    rw [h.block k (Array.getElem?_eq_some_iff.1 hg).1 (fun e => hne (by cases e; rfl))]
    exact hg
theorem keep3B {g : Nat} {w w1 : World} {b : Nat} {x y z : Value} (h : b < w.heap.size) (hne : b ≠ g) (c0 : w.cell? ⟨b, 0, none⟩ = some x) (c1 : w.cell? ⟨b, 1, none⟩ = some y) (c2 : w.cell? ⟨b, 2, none⟩ = some z) (k : But g w w1) : w1.cell? ⟨b, 0, none⟩ = some x ∧ w1.cell? ⟨b, 1, none⟩ = some y ∧ w1.cell? ⟨b, 2, none⟩ = some z ∧ b < w1.heap.size :=
  ⟨(k.cell (a := ⟨b, 0, none⟩) h hne).trans c0, (k.cell (a := ⟨b, 1, none⟩) h hne).trans c1, (k.cell (a := ⟨b, 2, none⟩) h hne).trans c2, by have := k.size; omega⟩
set_option maxRecDepth 100000 in
set_option maxHeartbeats 2000000 in
theorem smarkG (g n cap : Nat) (ts : List (List UInt8)) (k0 : Nat) (w : World) (hnn : n = ts.length) (hn : n ≤ 1048576) (hk0 : 1 ≤ k0 ∧ k0 ≤ 1000) (h1 : Strs g ts (.slice (some ⟨g, 0, none⟩) n cap) w) :
    Calls Try.prog 32 #[.slice (some ⟨g, 0, none⟩) n cap, .int .i64 k0] w fun e w' => e = .returned (.int .i64 ((k0 : Int) + n)) ∧ Strs g (smarks k0 n) (.slice (some ⟨g, 0, none⟩) n cap) w' ∧ But g w w' := by
  obtain ⟨hk1, hk2⟩ := hk0
  have H1 := Lib.hid h1
  have hg : g < w.heap.size := h1.baseLe.2
  have HN := Lib.hid hnn
  clear hnn h1
  go_enter Try.func32, Try.ntmps32
  go_wp2
  go_loopw [1, 5] (fun kv i wr => ∃ k : Nat, k ≤ n ∧ i = .int .i64 k ∧ kv = .int .i64 ((k0 : Int) + k) ∧ Hid (Strs g (smarked k0 ts k) (.slice (some ⟨g, 0, none⟩) n cap) wr) ∧ Hid (But g w wr) ∧ g < wr.heap.size ∧ w.heap.size ≤ wr.heap.size) (fun _ i _ => n - (intOf i).toNat)
  case atStart => exact ⟨0, Nat.zero_le _, rfl, by simp, by show Strs _ _ _ _; rw [smarked_zero]; exact H1.out, But.refl _ _, hg, Nat.le_refl _⟩
  case round =>
    obtain ⟨k, hk, rfl, rfl, hI, HBT, hgs, hws⟩ := hrel
    have hlen : (smarked k0 ts k).length = n := by rw [smarked_len _ _ _ (by rw [← HN.out]; exact hk), ← HN.out]
    by_cases hlt : k < n
    · have HLN := Lib.hid hlen
      obtain ⟨kk, hkk⟩ : ∃ kk : Nat, (k0 : Int) + (k : Int) = (kk : Int) := ⟨k0 + k, by omega⟩
      have hkk1 : 1 ≤ kk := by omega
      have hkk2 : kk ≤ 5000000 := by omega
      have HKK : Hid (kk = k0 + k) := by show _ = _; omega
      rw [hkk]
      have HE := Lib.hid (smarked_succ k0 ts k (by rw [← HN.out]; exact hlt))
      clear hlen
      go_wp2_with (go_at_call 37; go_must ((with_reducible refine (markText_any kk _ hkk1 hkk2).mono ?_); rintro e w1 ⟨rfl, b1⟩; have hI1 := Lib.hid (hI.out.below b1); have hff : w1.frozen? ⟨g, k, none⟩ = false := (by have h := hI1.out; unfold Strs at h; rw [HLN.out] at h; exact h.frozenAt k); have hcc : w1.cell? ⟨g, k, none⟩ = some (strV ((smarked k0 ts k).getD k [])) := (by have h := hI1.out; unfold Strs at h; rw [HLN.out] at h; rw [h.cellAt k (by omega)]; simp [List.getElem?_eq_getElem (show k < (smarked k0 ts k).length by rw [HLN.out]; exact hlt)]); have hz1 := b1.size))
      have HS := Lib.hid (Strs.store HLN.out hI1.out k (mkt kk))
      go_roundw
      case rel => exact ⟨k + 1, by omega, by go_num, val_int (by omega), by show Strs _ _ _ _; rw [← HE.out, ← HKK.out]; exact HS.out, (HBT.out.trans (But.of b1)).setCell _ _, by simp [World.setCell]; omega, by simp [World.setCell]; omega⟩
      case measure => simp [intOf]; omega
    · have HK : Hid (k = n) := by show _ = _; omega
      go_wp2
      go_ret
      exact ⟨ret_int (by rw [HK.out]), by
        have e : smarks k0 n = smarked k0 ts k := by rw [HK.out, HN.out, smarked_all]
        rw [e]; exact hI.out, HBT.out⟩
theorem markScheme_any (P B : ByteArray) (g n cap : Nat) (ts : List (List UInt8)) (w : World) (hnn : n = ts.length) (hn : n ≤ 1048576) (h1 : Strs g ts (.slice (some ⟨g, 0, none⟩) n cap) w) :
    Calls Try.prog 19 #[.agg #[.string P, .string B, .slice (some ⟨g, 0, none⟩) n cap], .int .i64 1] w fun e w' => e = .returned (.int .i64 (1 + (n : Int))) ∧ Strs g (smarks 1 n) (.slice (some ⟨g, 0, none⟩) n cap) w' ∧ But g w w' := by
  have H1 := Lib.hid h1
  have HN := Lib.hid hnn
  clear h1 hnn
  have hb : Below w.heap.size w (w.alloc (.cells #[.string P, .string B, .slice (some ⟨g, 0, none⟩) n cap] 24)) := (Below.refl _ _).alloc (Nat.le_refl _) _
  have hc := smarkG g n cap ts 1 _ HN.out hn (by omega) (H1.out.below hb)
  rw [show ((1 : Nat) : Int) = 1 from rfl] at hc
  go_enter Try.func19, Try.ntmps19
  go_wp2_with (go_at_call 32; go_must ((with_reducible refine hc.mono ?_); rintro e w1 ⟨rfl, hs1, hb1⟩))
  go_ret
  exact ⟨rfl, hs1, (But.of hb).trans hb1⟩
theorem heldScheme_any (P B : ByteArray) (E g n cap : Nat) (w : World) (hn : n ≤ 1000) (h1 : Strs E (smarks 1 n) (.slice (some ⟨g, 0, none⟩) n cap) w) :
    Calls Try.prog 20 #[.agg #[.string P, .string B, .slice (some ⟨g, 0, none⟩) n cap], .int .i64 1] w fun e w' => e = .returned (.int .i64 (1 + (n : Int))) ∧ Below w.heap.size w w' := by
  have H1 := Lib.hid h1
  clear h1
  have hb : Below w.heap.size w (w.alloc (.cells #[.string P, .string B, .slice (some ⟨g, 0, none⟩) n cap] 24)) := (Below.refl _ _).alloc (Nat.le_refl _) _
  have hc := sheld_any E n _ 1 _ hn (by omega) (H1.out.below hb)
  have hng : ¬ (1 : Int) + (n : Int) < 0 := by omega
  rw [show ((1 : Nat) : Int) = 1 from rfl] at hc
  go_enter Try.func20, Try.ntmps20
  go_wp2_with (go_at_call 33; go_must ((with_reducible refine hc.mono ?_); rintro e w1 ⟨rfl, hb1⟩))
  go_ret
  exact ⟨rfl, chain hb hb1⟩
end Go.Proofs.Ytkdnplcaghnfhaa
