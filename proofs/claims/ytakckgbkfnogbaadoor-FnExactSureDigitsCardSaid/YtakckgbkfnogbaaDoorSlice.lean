/-
  Contracts of the law's own helpers over slices of numbers: compared, marked, held.
-/
import Derived.Test.YtakckgbkfnogbaaDoorRows
import Derived.WalkKit
import Derived.ProofKit
import Derived.Handy
import Derived.Lib.Hide
import Derived.WalkSmall
import Derived.Deep.QuietTactic
import Derived.BigQuiet
import Derived.WalkSpells
namespace Go.Proofs.YtakckgbkfnogbaaDoor
open Go.RowKit

theorem ret_int'' {k : IntKind} {a b : Int} (h : a = b) : Ending.returned (.int k a) = .returned (.int k b) := by rw [h]
theorem val_int'' {k : IntKind} {a b : Int} (h : a = b) : Value.int k a = .int k b := by rw [h]
/-- A value is a slice of these numbers, in a row of the call's own from block B on. -/
def Ints (B : Nat) (xs : List Int) (v : Value) (w : World) : Prop := w.ownsRow B 3 1 v xs.length (xs.map (Value.int .i64))
theorem Ints.form {B : Nat} {xs : List Int} {v : Value} {w : World} (h : Ints B xs v w) :
    (∃ ao cap, v = .slice ao xs.length cap ∧ xs.length = 0) ∨ ∃ g cap, v = .slice (some ⟨g, 0, none⟩) xs.length cap ∧ B ≤ g ∧ g < w.heap.size ∧ (∀ i, i < xs.length → w.cell? ⟨g, i, none⟩ = some (.int .i64 (xs.getD i 0))) ∧ ∀ i, w.frozen? ⟨g, i, none⟩ = false := by
  have h' := h
  rcases h.2 with ⟨hv, hn⟩ | ⟨g, cap, cur, hv, hb, hg, _⟩
  · exact .inl ⟨none, 0, by rw [hv, hn], hn⟩
  · refine .inr ⟨g, cap, hv, hb, (Array.getElem?_eq_some_iff.1 hg).1, fun i hi => ?_, fun i => ?_⟩
    · unfold Ints at h'
      rw [hv] at h'
      rw [h'.cellAt i (by omega)]
      simp [List.getElem?_eq_getElem hi]
    · unfold Ints at h'
      rw [hv] at h'
      exact h'.frozenAt i
theorem Ints.below {B : Nat} {xs : List Int} {v : Value} {w w' : World} (h : Ints B xs v w) (k : Below w.heap.size w w') : Ints B xs v w' :=
  World.ownsRow.kept h (row := none) ⟨k.os, k.tape, k.output, k.size, fun i hi _ => k.block i hi⟩ (by cases v.ownBlock <;> simp)
theorem Ints.drewN {B : Nat} {xs : List Int} {v : Value} {w : World} (h : Ints B xs v w) (n : Nat) : Ints B xs v (w.drewN n) := h
theorem Ints.mono {B B' : Nat} {xs : List Int} {v : Value} {w : World} (h : Ints B xs v w) (hB : B' ≤ B) : Ints B' xs v w := by
  refine ⟨h.1, ?_⟩
  rcases h.2 with h0 | ⟨g, cap, cur, hv, hb, r⟩
  · exact .inl h0
  · exact .inr ⟨g, cap, cur, hv, by omega, r⟩
/-- What lies below the row's base is kept while the row is written. -/
theorem Ints.apart {B C : Nat} {xs : List Int} {v : Value} {w w' : World} (h : Ints B xs v w) (hC : w.heap.size ≤ C ∨ ∀ k, v.ownBlock = some k → k < C) (k : Below C w w') : Ints B xs v w' := by
  refine ⟨h.1, ?_⟩
  rcases h.2 with h0 | ⟨g, cap, cur, hv, hb, hg, r⟩
  · exact .inl h0
  · refine .inr ⟨g, cap, cur, hv, hb, ?_, r⟩
    have hlt : g < w.heap.size := (Array.getElem?_eq_some_iff.1 hg).1
    rw [k.block g ?_]
    · exact hg
    · rcases hC with h1 | h1
      · omega
      · exact h1 g (by rw [hv]; rfl)
theorem Ints.own_lt {B : Nat} {xs : List Int} {v : Value} {w : World} (h : Ints B xs v w) : ∀ k, v.ownBlock = some k → k < w.heap.size := fun k hk => (World.ownsRow.lt h k hk).2

set_option maxHeartbeats 800000 in
theorem eqInts_yes (B C : Nat) (xs : List Int) (v u : Value) (w : World) (hn : xs.length ≤ 2000000) (h1 : Ints B xs v w) (h2 : Ints C xs u w) :
    Calls Tryd.prog 33 #[v, u] w fun e w' => e = .returned (.bool true) ∧ ∃ n, w' = w.drewN n := by
  obtain ⟨n, hnn⟩ : ∃ n, n = xs.length := ⟨_, rfl⟩
  rcases h1.form with ⟨ao, cap, rfl, h0⟩ | ⟨g, cap, rfl, _, _, hc, _⟩
  · rcases h2.form with ⟨ao2, cap2, rfl, _⟩ | ⟨g2, cap2, rfl, _, _, _, _⟩
    all_goals
      rw [h0]
      clear h1 h2 hn hnn
      go_enter Tryd.func33, Tryd.ntmps33
      go_wp2
      go_loopw [5] (fun i wr => i = .int .i64 0 ∧ ∃ q, wr = w.drewN q) (fun _ _ => 0)
      case atStart => exact ⟨rfl, 0, rfl⟩
      case round =>
        obtain ⟨rfl, q, rfl⟩ := hrel
        go_wp2
        go_ret
        exact ⟨rfl, q, rfl⟩
  · rcases h2.form with ⟨ao2, cap2, rfl, h0⟩ | ⟨g2, cap2, rfl, _, _, hc2, _⟩
    · rw [h0]
      clear h1 h2 hn hnn hc
      go_enter Tryd.func33, Tryd.ntmps33
      go_wp2
      go_loopw [5] (fun i wr => i = .int .i64 0 ∧ ∃ q, wr = w.drewN q) (fun _ _ => 0)
      case atStart => exact ⟨rfl, 0, rfl⟩
      case round =>
        obtain ⟨rfl, q, rfl⟩ := hrel
        go_wp2
        go_ret
        exact ⟨rfl, q, rfl⟩
    · rw [← hnn]
      rw [← hnn] at hn hc hc2
      clear h1 h2 hnn
      go_enter Tryd.func33, Tryd.ntmps33
      go_wp2
      go_loopw [5] (fun i wr => ∃ k q : Nat, k ≤ n ∧ i = .int .i64 k ∧ wr = w.drewN q) (fun i _ => n - (intOf i).toNat)
      case atStart => exact ⟨0, 0, Nat.zero_le _, rfl, rfl⟩
      case round =>
        obtain ⟨k, q, hk, rfl, rfl⟩ := hrel
        by_cases hlt : k < n
        · have d1 := hc k hlt
          have d2 := hc2 k hlt
          have hk0 : (0 : Int) ≤ (k : Int) := by omega
          have hk1 : (k : Int) < (n : Int) := by omega
          clear hc hc2
          go_wp2
          go_quiet (fail)
          go_wp2
          go_roundw
          case rel => exact ⟨k + 1, q + nq, by omega, by go_num, rfl⟩
          case measure => simp [intOf]; omega
        · go_wp2
          go_ret
          exact ⟨rfl, q, rfl⟩
/-- The marks that are laid: k, k + 1, .. -/
def marks (k : Int) (n : Nat) : List Int := (List.range n).map (fun (j : Nat) => k + (j : Int))
theorem marks_len (k : Int) (n : Nat) : (marks k n).length = n := by simp [marks]
theorem marks_get (k : Int) (n j : Nat) (h : j < n) : (marks k n).getD j 0 = k + j := by
  simp [marks, List.getD, h]
/-- After i marks. -/
def marked (k : Int) (xs : List Int) (i : Nat) : List Int := marks k i ++ xs.drop i
theorem marked_zero (k : Int) (xs : List Int) : marked k xs 0 = xs := by simp [marked, marks]
theorem marked_all (k : Int) (xs : List Int) : marked k xs xs.length = marks k xs.length := by simp [marked]
theorem marked_succ (k : Int) (xs : List Int) (i : Nat) (h : i < xs.length) : (marked k xs i).set i (k + (i : Int)) = marked k xs (i + 1) := by
  unfold marked
  rw [List.set_append_right _ _ (by rw [marks_len]; exact Nat.le_refl _), marks_len, Nat.sub_self]
  rw [show (xs.drop i).set 0 (k + (i : Int)) = (k + (i : Int)) :: xs.drop (i + 1) from by rw [List.drop_eq_getElem_cons h]; rfl]
  simp [marks, List.range_succ]
theorem marked_len (k : Int) (xs : List Int) (i : Nat) (h : i ≤ xs.length) : (marked k xs i).length = xs.length := by
  simp [marked, marks_len]; omega
theorem Ints.store {B : Nat} {xs : List Int} {g n cap : Nat} {w : World} (hn : xs.length = n) (h : Ints B xs (.slice (some ⟨g, 0, none⟩) n cap) w) (j : Nat) (x : Int) : Ints B (xs.set j x) (.slice (some ⟨g, 0, none⟩) n cap) (w.setCell ⟨g, j, none⟩ (.int .i64 x)) := by
  subst hn
  have := (World.ownsRow.stored h j (.int .i64 x)).1
  unfold Ints
  rw [List.length_set, List.map_set]; exact this

set_option maxHeartbeats 800000 in
theorem mark_any (B : Nat) (xs : List Int) (v : Value) (k0 : Int) (w : World) (hn : xs.length ≤ 2000000) (hk0 : 0 ≤ k0 ∧ k0 ≤ 1000000000) (h1 : Ints B xs v w) :
    Calls Tryd.prog 34 #[v, .int .i64 k0] w fun e w' => e = .returned (.int .i64 (k0 + xs.length)) ∧ Ints B (marks k0 xs.length) v w' ∧ Below B w w' := by
  obtain ⟨hk1, hk2⟩ := hk0
  have H1 := Lib.hid h1
  rcases h1.form with ⟨ao, cap, rfl, h0⟩ | ⟨g, cap, rfl, hBg, hg, hc, hf⟩
  · have hxs : xs = [] := List.length_eq_zero_iff.1 h0
    subst hxs
    clear h1
    go_enter Tryd.func34, Tryd.ntmps34
    go_wp2
    go_loop [1, 5] (fun kv i => i = .int .i64 0 ∧ kv = .int .i64 k0) (fun _ _ => 0)
    case atStart => exact ⟨rfl, rfl⟩
    case round =>
      obtain ⟨rfl, rfl⟩ := hrel
      go_wp2
      go_ret
      exact ⟨ret_int'' (by simp), H1.out, Below.refl _ _⟩
  · obtain ⟨n, hnn⟩ : ∃ n, n = xs.length := ⟨_, rfl⟩
    have HN := Lib.hid hnn
    rw [← hnn] at hn h1 H1 hc
    rw [← hnn]
    clear hc hf hnn
    go_enter Tryd.func34, Tryd.ntmps34
    go_wp2
    go_loopw [1, 5] (fun kv i wr => ∃ k : Nat, k ≤ n ∧ i = .int .i64 k ∧ kv = .int .i64 (k0 + k) ∧ Hid (Ints B (marked k0 xs k) (.slice (some ⟨g, 0, none⟩) n cap) wr) ∧ Below B w wr ∧ g < wr.heap.size) (fun _ i _ => n - (intOf i).toNat)
    case atStart => exact ⟨0, Nat.zero_le _, rfl, by simp, by show Ints _ _ _ _; rw [marked_zero]; exact H1.out, Below.refl _ _, hg⟩
    case round =>
      obtain ⟨k, hk, rfl, rfl, hI, hb, hgs⟩ := hrel
      have hlen : (marked k0 xs k).length = n := by rw [marked_len _ _ _ (by rw [← HN.out]; exact hk), ← HN.out]
      by_cases hlt : k < n
      · have hff : wr.frozen? ⟨g, k, none⟩ = false := by
          have := hI.out; unfold Ints at this; rw [hlen] at this; exact this.frozenAt k
        have hcc : wr.cell? ⟨g, k, none⟩ = some (.int .i64 ((marked k0 xs k).getD k 0)) := by
          have := hI.out; unfold Ints at this; rw [hlen] at this
          rw [this.cellAt k (by omega)]
          simp [List.getElem?_eq_getElem (show k < (marked k0 xs k).length by omega)]
        have HS := Lib.hid (Ints.store hlen hI.out k (k0 + (k : Int)))
        have HE := Lib.hid (marked_succ k0 xs k (by rw [← HN.out]; exact hlt))
        clear hlen
        go_wp2
        go_roundw
        case rel => exact ⟨k + 1, by omega, by go_num, val_int'' (by omega), by show Ints _ _ _ _; rw [← HE.out]; exact HS.out, hb.setCell hBg _, by simp [World.setCell]; omega⟩
        case measure => simp [intOf]; omega
      · have HK : Hid (k = n) := by show _ = _; omega
        go_wp2
        go_ret
        exact ⟨ret_int'' (by rw [HK.out]), by
          have e : marks k0 n = marked k0 xs k := by rw [HK.out, HN.out, marked_all]
          rw [e]; exact hI.out, hb⟩

set_option maxHeartbeats 800000 in
theorem held_any (B : Nat) (n : Nat) (v : Value) (k0 : Int) (w : World) (hn : n ≤ 2000000) (hk0 : 0 ≤ k0 ∧ k0 ≤ 1000000000) (h1 : Ints B (marks k0 n) v w) :
    Calls Tryd.prog 35 #[v, .int .i64 k0] w fun e w' => e = .returned (.int .i64 (k0 + n)) ∧ w = w' := by
  obtain ⟨hk1, hk2⟩ := hk0
  rcases h1.form with ⟨ao, cap, rfl, h0⟩ | ⟨g, cap, rfl, hBg, hg, hc, hf⟩
  · rw [marks_len] at h0 ⊢
    subst h0
    clear h1
    go_enter Tryd.func35, Tryd.ntmps35
    go_wp2
    go_loop [1, 5] (fun kv i => i = .int .i64 0 ∧ kv = .int .i64 k0) (fun _ _ => 0)
    case atStart => exact ⟨rfl, rfl⟩
    case round =>
      obtain ⟨rfl, rfl⟩ := hrel
      go_wp2
      go_ret
      exact ⟨ret_int'' (by simp), rfl⟩
  · rw [marks_len] at hc ⊢
    have hc2 : ∀ i, i < n → w.cell? ⟨g, i, none⟩ = some (.int .i64 (k0 + (i : Int))) := fun i hi => by rw [hc i hi, marks_get k0 n i hi]
    have HC := Lib.hid hc2
    clear hc hc2 h1 hf
    go_enter Tryd.func35, Tryd.ntmps35
    go_wp2
    go_loop [1, 5] (fun kv i => ∃ k : Nat, k ≤ n ∧ i = .int .i64 k ∧ kv = .int .i64 (k0 + k)) (fun _ i => n - (intOf i).toNat)
    case atStart => exact ⟨0, Nat.zero_le _, rfl, by simp⟩
    case round =>
      obtain ⟨k, hk, rfl, rfl⟩ := hrel
      by_cases hlt : k < n
      · have hcc := HC.out k hlt
        go_wp2
        go_round
        case rel => exact ⟨k + 1, by omega, by go_num, val_int'' (by omega)⟩
        case measure => simp [intOf]; omega
      · have HK : Hid (k = n) := by show _ = _; omega
        go_wp2
        go_ret
        exact ⟨ret_int'' (by rw [HK.out]), rfl⟩
end Go.Proofs.YtakckgbkfnogbaaDoor
