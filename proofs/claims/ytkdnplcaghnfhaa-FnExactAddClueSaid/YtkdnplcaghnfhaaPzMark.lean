/-
  Puzzles marked and held by the law.
-/
import Derived.Test.YtkdnplcaghnfhaaPzEq
namespace Go.Proofs.Ytkdnplcaghnfhaa
open Go.RowKit Go.Deep
set_option maxRecDepth 100000

/-- The marks that are laid. -/
def mkc (n : Nat) : List Cl := (List.range n).map (fun (j : Nat) => ⟨1 + 3 * (j : Int), 1 + 3 * (j : Int) + 1, 1 + 3 * (j : Int) + 1 + 1⟩)
theorem mkc_len (n : Nat) : (mkc n).length = n := by simp [mkc]
theorem mkc_get (n j : Nat) (h : j < n) : (mkc n).getD j c0 = ⟨1 + 3 * (j : Int), 1 + 3 * (j : Int) + 1, 1 + 3 * (j : Int) + 1 + 1⟩ := by
  simp [mkc, List.getD, h]
theorem mkc_succ (n : Nat) : mkc (n + 1) = mkc n ++ [⟨1 + 3 * (n : Int), 1 + 3 * (n : Int) + 1, 1 + 3 * (n : Int) + 1 + 1⟩] := by simp [mkc, List.range_succ]
def mkd (cs : List Cl) (k : Nat) : List Cl := mkc k ++ cs.drop k
theorem mkd_zero (cs : List Cl) : mkd cs 0 = cs := by simp [mkd, mkc]
theorem mkd_all (cs : List Cl) : mkd cs cs.length = mkc cs.length := by simp [mkd]
theorem mkd_len (cs : List Cl) (k : Nat) (h : k ≤ cs.length) : (mkd cs k).length = cs.length := by simp [mkd, mkc_len]; omega
theorem mkd_succ (cs : List Cl) (k : Nat) (h : k < cs.length) : (((flc (mkd cs k)).set (k * 3) (.int .i64 (1 + 3 * (k : Int)))).set (k * 3 + 1) (.int .i64 (1 + 3 * (k : Int) + 1))).set (k * 3 + 2) (.int .i64 (1 + 3 * (k : Int) + 1 + 1)) = flc (mkd cs (k + 1)) := by
  unfold mkd
  have e1 : (flc (mkc k)).length = k * 3 := by rw [flc_len, mkc_len]
  rw [List.drop_eq_getElem_cons h, mkc_succ, flc_append, flc_append, flc_append,
    List.set_append_right _ _ (by omega), List.set_append_right _ _ (by omega), List.set_append_right _ _ (by omega), e1, Nat.sub_self, show k * 3 + 1 - k * 3 = 1 by omega, show k * 3 + 2 - k * 3 = 2 by omega]
  simp [flc]
theorem Clu.kp {B : Nat} {cs : List Cl} {v : Value} {w w' : World} {row : Option Nat} (h : Clu B cs v w) (k : w.grownBy w' row) (hne : ∀ q, v.ownBlock = some q → row ≠ some q) : Clu B cs v w' := by
  refine World.ownsRow.kept h k ?_
  cases hv : v.ownBlock with
  | none => exact .inl rfl
  | some q => exact .inr (fun e => hne q hv e.symm)
theorem gb_trans {w a b : World} {row : Option Nat} (h : w.grownBy a row) (g : a.grownBy b row) : w.grownBy b row :=
  ⟨g.os.trans h.os, g.tape.trans h.tape, g.output.trans h.output, Nat.le_trans h.size g.size, fun k hk hne => (g.block k (Nat.lt_of_lt_of_le hk h.size) hne).trans (h.block k hk hne)⟩
theorem gb_of {w a : World} (row : Option Nat) (h : Below w.heap.size w a) : w.grownBy a row := ⟨h.os, h.tape, h.output, h.size, fun k hk _ => h.block k hk⟩
theorem gb_set {w : World} {b : Nat} (i : Nat) (v : Value) : w.grownBy (w.setCell ⟨b, i, none⟩ v) (some b) :=
  ⟨rfl, rfl, rfl, by simp [World.setCell], fun k _ hk => heap_setCell_other w ⟨b, i, none⟩ k v (fun e => hk (by simp [e]))⟩
set_option maxHeartbeats 8000000 in
theorem markC_any (B : Nat) (cs : List Cl) (v : Value) (w : World) (hn : cs.length ≤ 1048576) (h : Clu B cs v w) :
    Calls Try.prog 29 #[v, .int .i64 1] w fun e w' => e = .returned (.int .i64 (1 + 3 * (cs.length : Int))) ∧ Clu B (mkc cs.length) v w' ∧ w.grownBy w' v.ownBlock := by
  rcases h.form with ⟨rfl, rfl⟩ | ⟨g, cap, rfl, hBg, hg, _, _, _⟩
  · go_enter Try.func29, Try.ntmps29
    go_wp2
    go_loop [1, 5] (fun kv i => i = .int .i64 0 ∧ kv = .int .i64 1) (fun _ _ => 0)
    case atStart => exact ⟨rfl, rfl⟩
    case round =>
      obtain ⟨rfl, rfl⟩ := hrel
      go_wp2
      go_ret
      exact ⟨ret_int (by simp), Clu.nil _ _, World.grownBy.mk rfl rfl rfl (Nat.le_refl _) (fun _ _ _ => rfl)⟩
  · have H := Lib.hid h
    obtain ⟨n, hnn⟩ : ∃ n, n = cs.length := ⟨_, rfl⟩
    have HN := Lib.hid hnn
    rw [← hnn] at hn H
    rw [← hnn]
    clear h hnn
    go_enter Try.func29, Try.ntmps29
    go_wp2
    go_loopw [1, 5] (fun kv i wr => ∃ k : Nat, k ≤ n ∧ i = .int .i64 k ∧ kv = .int .i64 (1 + 3 * (k : Int)) ∧ Hid (Clu B (mkd cs k) (.slice (some ⟨g, 0, none⟩) n cap) wr) ∧ Hid (w.grownBy wr (some g)) ∧ g < wr.heap.size) (fun _ i _ => n - (intOf i).toNat)
    case atStart => exact ⟨0, Nat.zero_le _, rfl, by simp, by show Clu _ _ _ _; rw [mkd_zero]; exact H.out, World.grownBy.mk rfl rfl rfl (Nat.le_refl _) (fun _ _ _ => rfl), hg⟩
    case round =>
      obtain ⟨k, hk, rfl, rfl, HI, HG, hgs⟩ := hrel
      obtain ⟨wo, rfl⟩ : ∃ wo : World, wo = wr := ⟨_, rfl⟩
      by_cases hlt : k < n
      · have hlen : (mkd cs k).length = n := by rw [mkd_len _ _ (by rw [← HN.out]; exact hk), ← HN.out]
        have hO : wo.ownsRow B 43 3 (.slice (some ⟨g, 0, none⟩) n cap) n (flc (mkd cs k)) := by have := HI.out; unfold Clu at this; rw [hlen] at this; exact this
        have HO := Lib.hid hO
        have hfl : (flc (mkd cs k)).length = n * 3 := by rw [flc_len, hlen]
        have z0 := hO.frozenAt (k * 3)
        have z1 := hO.frozenAt (k * 3 + 1)
        have z2 := hO.frozenAt (k * 3 + 2)
        have q0 := hO.cellAt (k * 3) (by omega)
        have q1 := hO.cellAt (k * 3 + 1) (by omega)
        have q2 := hO.cellAt (k * 3 + 2) (by omega)
        rw [List.getElem?_eq_getElem (by omega)] at q0 q1 q2
        have HE := Lib.hid (mkd_succ cs k (by rw [← HN.out]; exact hlt))
        have HL2 : Hid ((mkd cs (k + 1)).length = n) := by show _ = _; rw [mkd_len _ _ (by rw [← HN.out]; omega), ← HN.out]
        obtain ⟨x0, hx0⟩ : ∃ x, (flc (mkd cs k))[k * 3]'(by omega) = x := ⟨_, rfl⟩
        obtain ⟨x1, hx1⟩ : ∃ x, (flc (mkd cs k))[k * 3 + 1]'(by omega) = x := ⟨_, rfl⟩
        obtain ⟨x2, hx2⟩ : ∃ x, (flc (mkd cs k))[k * 3 + 2]'(by omega) = x := ⟨_, rfl⟩
        rw [hx0] at q0
        rw [hx1] at q1
        rw [hx2] at q2
        clear hlen hO hfl hx0 hx1 hx2
        go_wp2
        go_roundw
        case rel =>
          refine ⟨k + 1, by omega, by go_num, val_int (by omega), ?_, gb_trans (gb_trans (gb_trans HG.out (gb_set _ _)) (gb_set _ _)) (gb_set _ _), by simp [World.setCell]; omega⟩
          show Clu _ _ _ _
          unfold Clu
          rw [← HE.out, HL2.out]
          exact ((((HO.out.stored (k * 3) _).1).stored (k * 3 + 1) _).1.stored (k * 3 + 2) _).1
        case measure => simp [intOf]; omega
      · have HK : Hid (k = n) := by show _ = _; omega
        go_wp2
        go_ret
        refine ⟨ret_int (by rw [HK.out]), ?_, HG.out⟩
        have e : mkc n = mkd cs k := by rw [HK.out, HN.out, mkd_all]
        rw [e]; exact HI.out
theorem markPz_any (B : Nat) (cs : List Cl) (v : Value) (w : World) (hn : cs.length ≤ 1048576) (h : Clu B cs v w) :
    Calls Try.prog 16 #[.agg #[v], .int .i64 1] w fun e w' => e = .returned (.int .i64 (1 + 3 * (cs.length : Int))) ∧ Clu B (mkc cs.length) v w' ∧ w.grownBy w' v.ownBlock := by
  have hb : Below w.heap.size w (w.alloc (.cells #[v] 39)) := (Below.refl _ _).alloc (Nat.le_refl _) _
  have hc := markC_any B cs v _ hn (h.below hb)
  have HC := Lib.hid hc
  have HB := Lib.hid hb
  clear h hc hb
  go_enter Try.func16, Try.ntmps16
  go_wp2_with (go_at_call 29; (refine HC.out.mono ?_); rintro e w1 ⟨rfl, hs1, g1⟩)
  go_ret
  exact ⟨rfl, hs1, gb_trans (gb_of _ HB.out) g1⟩
set_option maxHeartbeats 4000000 in
theorem heldC_any (B n : Nat) (v : Value) (w : World) (hn : n ≤ 1048576) (h : Clu B (mkc n) v w) :
    Calls Try.prog 30 #[v, .int .i64 1] w fun e w' => e = .returned (.int .i64 (1 + 3 * (n : Int))) ∧ w = w' := by
  rcases h.form with ⟨rfl, h0⟩ | ⟨g, cap, rfl, hBg, hg, _, hc, _⟩
  · obtain rfl : n = 0 := by have := mkc_len n; rw [h0] at this; exact this.symm
    go_enter Try.func30, Try.ntmps30
    go_wp2
    go_loop [1, 5] (fun kv i => i = .int .i64 0 ∧ kv = .int .i64 1) (fun _ _ => 0)
    case atStart => exact ⟨rfl, rfl⟩
    case round =>
      obtain ⟨rfl, rfl⟩ := hrel
      go_wp2
      go_ret
      exact ⟨ret_int (by simp), rfl⟩
  · rw [mkc_len] at hc ⊢
    have HC : Hid (∀ i, i < n → w.cell? ⟨g, i * 3, none⟩ = some (.int .i64 (1 + 3 * (i : Int))) ∧ w.cell? ⟨g, i * 3 + 1, none⟩ = some (.int .i64 (1 + 3 * (i : Int) + 1)) ∧ w.cell? ⟨g, i * 3 + 2, none⟩ = some (.int .i64 (1 + 3 * (i : Int) + 1 + 1))) := fun i hi => by
      have := hc i hi; rw [mkc_get n i hi] at this; exact this
    clear hc h
    go_enter Try.func30, Try.ntmps30
    go_wp2
    go_loop [1, 5] (fun kv i => ∃ k : Nat, k ≤ n ∧ i = .int .i64 k ∧ kv = .int .i64 (1 + 3 * (k : Int))) (fun _ i => n - (intOf i).toNat)
    case atStart => exact ⟨0, Nat.zero_le _, rfl, by simp⟩
    case round =>
      obtain ⟨k, hk, rfl, rfl⟩ := hrel
      by_cases hlt : k < n
      · obtain ⟨q0, q1, q2⟩ := HC.out k hlt
        go_wp2
        go_round
        case rel => exact ⟨k + 1, by omega, by go_num, val_int (by omega)⟩
        case measure => simp [intOf]; omega
      · have HK : Hid (k = n) := by show _ = _; omega
        go_wp2
        go_ret
        exact ⟨ret_int (by rw [HK.out]), rfl⟩
theorem heldPz_any (B n : Nat) (v : Value) (w : World) (hn : n ≤ 1048576) (h : Clu B (mkc n) v w) :
    Calls Try.prog 17 #[.agg #[v], .int .i64 1] w fun e w' => e = .returned (.int .i64 (1 + 3 * (n : Int))) ∧ Below w.heap.size w w' := by
  have hb : Below w.heap.size w (w.alloc (.cells #[v] 39)) := (Below.refl _ _).alloc (Nat.le_refl _) _
  have HC := Lib.hid (heldC_any B n v _ hn (h.below hb))
  have HB := Lib.hid hb
  have hng : ¬ (1 : Int) + 3 * (n : Int) < 0 := by omega
  clear h hb
  go_enter Try.func17, Try.ntmps17
  go_wp2_with (go_at_call 30; (refine HC.out.mono ?_); rintro e w1 ⟨rfl, rfl⟩)
  go_ret
  exact ⟨rfl, HB.out⟩
end Go.Proofs.Ytkdnplcaghnfhaa
