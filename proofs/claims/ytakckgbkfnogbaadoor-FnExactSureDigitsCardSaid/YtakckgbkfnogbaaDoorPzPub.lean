/-
  Solutions, their number, the first one, whether there is just one: both sides.
-/
import Derived.Test.YtakckgbkfnogbaaDoorPzLook
namespace Go.Proofs.YtakckgbkfnogbaaDoor
open Go.RowKit
set_option maxRecDepth 100000

def solP (cs : List Cl) : List (List UInt8) := if pzB cs then sol cs else []
def cntA (cs : List Cl) : Int := ((solP cs).length : Nat)
def fsA (cs : List Cl) : ByteArray := ⟨((solP cs).getD 0 []).toArray⟩
def fsB (cs : List Cl) : Bool := decide (0 < (solP cs).length)
def isA (cs : List Cl) : Bool := decide ((solP cs).length = 1)
theorem solP_yes {cs : List Cl} (h : pzB cs = true) : solP cs = sol cs := by unfold solP; rw [if_pos h]
theorem solP_no {cs : List Cl} (h : pzB cs = false) : solP cs = [] := by unfold solP; rw [if_neg (by rw [h]; simp)]
theorem solP_len (cs : List Cl) : (solP cs).length ≤ 1296 := by
  unfold solP; split
  · exact sol_len cs
  · simp
theorem keep1' {w w1 : World} {b : Nat} {x : Value} (h : b < w.heap.size) (c0 : w.cell? ⟨b, 0, none⟩ = some x) (k : Below w.heap.size w w1) : w1.cell? ⟨b, 0, none⟩ = some x ∧ b < w1.heap.size :=
  ⟨(k.cell (p := ⟨b, 0, none⟩) h).trans c0, by have := k.size; omega⟩
theorem iSol_any (cs : List Cl) (v : Value) (w : World) (hn : cs.length ≤ 1048576) (h : RdC cs v w) :
    Calls Tryd.prog 17 #[.agg #[v]] w fun e w' => (∃ u, e = .returned (.tuple #[u, .bool (pzB cs)]) ∧ Strs w.heap.size (solP cs) u w') ∧ Below w.heap.size w w' := by
  have HV := Lib.hid h
  have HR := Lib.hid (h.alloc (.cells #[v] 38))
  clear h
  have hb : Below w.heap.size w (w.alloc (.cells #[v] 38)) := (Below.refl _ _).alloc (Nat.le_refl _) _
  have HB := Lib.hid hb
  clear hb
  cases hg : pzB cs with
  | false =>
    have HG := Lib.hid hg
    have HS := Lib.hid (solP_no hg)
    clear hg
    go_enter Tryd.func17, Tryd.ntmps17
    go_wp2_with (go_at_call 48; (with_reducible refine (isPuzzle_b cs false v _ hn HR.out HG.out).mono ?_); rintro e w1 ⟨rfl, b1⟩)
    go_ret2
    exact ⟨⟨_, rfl, by rw [HS.out]; exact Strs.nil _ _⟩, chain HB.out b1⟩
  | true =>
    have HG := Lib.hid hg
    have HS := Lib.hid (solP_yes hg)
    have hl6 := pz_len hg
    have hall := AllC.of hg
    have HQ := Lib.hid (fun W (hr : RdC cs v W) => solutions_any cs v W (by omega) hall hr)
    clear hg hall
    go_enter Tryd.func17, Tryd.ntmps17
    go_wp2_with (first
      | (go_at_call 48; (with_reducible refine (isPuzzle_b cs true v _ hn HR.out HG.out).mono ?_); rintro e w1 ⟨rfl, b1⟩; have e0 := (blk1 (box_at w _ b1)).1; have hz := box_lt w _ b1; have B1 := chain HB.out b1; have A1 := HV.out.below B1)
      | (go_at_call 49; (refine (HQ.out _ A1).mono ?_); rintro e w2 ⟨⟨u, rfl, hu⟩, b2⟩))
    go_ret2
    exact ⟨⟨_, rfl, by rw [HS.out]; exact hu.mono B1.size⟩, chain B1 b2⟩
set_option maxHeartbeats 1000000 in
theorem iCnt_any (cs : List Cl) (v : Value) (w : World) (hn : cs.length ≤ 1048576) (h : RdC cs v w) :
    Calls Tryd.prog 24 #[.agg #[v]] w fun e w' => e = .returned (.tuple #[.int .i64 (cntA cs), .bool (pzB cs)]) ∧ Below w.heap.size w w' := by
  have HR := Lib.hid (h.alloc (.cells #[v] 38))
  clear h
  have hb : Below w.heap.size w (w.alloc (.cells #[v] 38)) := (Below.refl _ _).alloc (Nat.le_refl _) _
  have HB := Lib.hid hb
  clear hb
  obtain ⟨b, hbb⟩ : ∃ b, b = pzB cs := ⟨_, rfl⟩
  have HI := Lib.hid (iSol_any cs v _ hn HR.out)
  rw [← hbb] at HI ⊢
  clear hbb
  go_enter Tryd.func24, Tryd.ntmps24
  go_wp2_with (go_at_call 17; (refine HI.out.mono ?_); rintro e w1 ⟨⟨u, rfl, hu⟩, b1⟩; obtain ⟨a, cap, rfl⟩ := hu.val)
  go_ret2
  exact ⟨rfl, chain HB.out b1⟩
set_option maxHeartbeats 1000000 in
theorem sCnt_any (cs : List Cl) (v : Value) (w : World) (hn : cs.length ≤ 1048576) (h : RdC cs v w) :
    Calls Tryd.prog 23 #[.agg #[v]] w fun e w' => e = .returned (.tuple #[.int .i64 (cntA cs), .bool (pzB cs)]) ∧ Below w.heap.size w w' := by
  have HV := Lib.hid h
  have HR := Lib.hid (h.alloc (.cells #[v] 38))
  clear h
  have hb : Below w.heap.size w (w.alloc (.cells #[v] 38)) := (Below.refl _ _).alloc (Nat.le_refl _) _
  have HB := Lib.hid hb
  clear hb
  cases hg : pzB cs with
  | false =>
    have HG := Lib.hid hg
    have HS : Hid (0 = cntA cs) := by show _ = _; unfold cntA; rw [solP_no hg]; rfl
    clear hg
    go_enter Tryd.func23, Tryd.ntmps23
    go_wp2_with (go_at_call 45; (with_reducible refine (pzGood_b cs false v _ hn HR.out HG.out).mono ?_); rintro e w1 ⟨rfl, b1⟩)
    go_ret2
    exact ⟨ret_ib HS.out rfl, chain HB.out b1⟩
  | true =>
    have HG := Lib.hid hg
    have HS : Hid ((((sol cs).length : Nat) : Int) = cntA cs) := by show _ = _; unfold cntA; rw [solP_yes hg]
    have hl6 := pz_len hg
    have hall := AllC.of hg
    have HQ := Lib.hid (fun W (hr : RdC cs v W) => pzAll_any cs v W (by omega) hall hr)
    clear hg hall
    go_enter Tryd.func23, Tryd.ntmps23
    go_wp2_with (first
      | (go_at_call 45; (with_reducible refine (pzGood_b cs true v _ hn HR.out HG.out).mono ?_); rintro e w1 ⟨rfl, b1⟩; have e0 := (blk1 (box_at w _ b1)).1; have hz := box_lt w _ b1; have B1 := chain HB.out b1; have A1 := HV.out.below B1)
      | (go_at_call 46; (refine (HQ.out _ A1).mono ?_); rintro e w2 ⟨⟨u, rfl, hu⟩, b2⟩; obtain ⟨a, cap, rfl⟩ := hu.val))
    go_ret2
    exact ⟨ret_ib HS.out rfl, chain B1 b2⟩
set_option maxHeartbeats 1000000 in
theorem iFst_any (cs : List Cl) (v : Value) (w : World) (hn : cs.length ≤ 1048576) (h : RdC cs v w) :
    Calls Tryd.prog 26 #[.agg #[v]] w fun e w' => e = .returned (.tuple #[.string (fsA cs), .bool (fsB cs)]) ∧ Below w.heap.size w w' := by
  have HR := Lib.hid (h.alloc (.cells #[v] 38))
  clear h
  have hb : Below w.heap.size w (w.alloc (.cells #[v] 38)) := (Below.refl _ _).alloc (Nat.le_refl _) _
  have HB := Lib.hid hb
  clear hb
  have HI := Lib.hid (iSol_any cs v _ hn HR.out)
  obtain ⟨S, hS⟩ : ∃ S, solP cs = S := ⟨_, rfl⟩
  have HA : Hid (fsA cs = ⟨(S.getD 0 []).toArray⟩) := by show _ = _; unfold fsA; rw [hS]
  have HBb : Hid (fsB cs = decide (0 < S.length)) := by show _ = _; unfold fsB; rw [hS]
  rw [hS] at HI
  clear hS
  by_cases h0 : S.length = 0
  · obtain rfl := List.eq_nil_of_length_eq_zero h0
    clear h0
    go_enter Tryd.func26, Tryd.ntmps26
    go_wp2_with (go_at_call 17; (refine HI.out.mono ?_); rintro e w1 ⟨⟨u, rfl, hu⟩, b1⟩; obtain ⟨a, cap, rfl⟩ := hu.val)
    go_ret2
    exact ⟨ret_sb (by rw [HA.out]; rfl) (by rw [HBb.out]; rfl), chain HB.out b1⟩
  · have hp : 0 < S.length := by omega
    have hpi : (0 : Int) < (S.length : Int) := by omega
    have hq : ((S.length : Int) == 0) = false := by rw [beq_eq_false_iff_ne]; omega
    obtain ⟨n, hnn⟩ : ∃ n, n = S.length := ⟨_, rfl⟩
    have HN := Lib.hid hnn
    have HP := Lib.hid hp
    rw [← hnn] at hpi hq
    clear h0 hp hnn
    go_enter Tryd.func26, Tryd.ntmps26
    go_wp2_with (go_at_call 17; (refine HI.out.mono ?_); rintro e w1 ⟨⟨u, rfl, hu⟩, b1⟩; obtain ⟨g, cap, rfl, _, hg, hc⟩ := hu.pos HP.out; have c0 := hc 0 HP.out; unfold strV at c0; rw [← HN.out]; clear hc)
    go_ret2
    exact ⟨ret_sb (by rw [HA.out, List.getD_eq_getElem?_getD]) (by rw [HBb.out, decide_eq_true HP.out]), chain HB.out b1⟩
set_option maxHeartbeats 1000000 in
theorem sFst_any (cs : List Cl) (v : Value) (w : World) (hn : cs.length ≤ 1048576) (h : RdC cs v w) :
    Calls Tryd.prog 25 #[.agg #[v]] w fun e w' => e = .returned (.tuple #[.string (fsA cs), .bool (fsB cs)]) ∧ Below w.heap.size w w' := by
  have HV := Lib.hid h
  have HR := Lib.hid (h.alloc (.cells #[v] 38))
  clear h
  have hb : Below w.heap.size w (w.alloc (.cells #[v] 38)) := (Below.refl _ _).alloc (Nat.le_refl _) _
  have HB := Lib.hid hb
  clear hb
  cases hg : pzB cs with
  | false =>
    have HG := Lib.hid hg
    have HA : Hid (fsA cs = ⟨#[]⟩) := by show _ = _; unfold fsA; rw [solP_no hg]; rfl
    have HBb : Hid (fsB cs = false) := by show _ = _; unfold fsB; rw [solP_no hg]; rfl
    clear hg
    go_enter Tryd.func25, Tryd.ntmps25
    go_wp2_with (go_at_call 45; (with_reducible refine (pzGood_b cs false v _ hn HR.out HG.out).mono ?_); rintro e w1 ⟨rfl, b1⟩)
    go_ret2
    exact ⟨ret_sb HA.out.symm HBb.out.symm, chain HB.out b1⟩
  | true =>
    have HG := Lib.hid hg
    have hl6 := pz_len hg
    have hall := AllC.of hg
    have HQ := Lib.hid (fun W (hr : RdC cs v W) => pzAll_any cs v W (by omega) hall hr)
    obtain ⟨S, hS⟩ : ∃ S, sol cs = S := ⟨_, rfl⟩
    have HA : Hid (fsA cs = ⟨(S.getD 0 []).toArray⟩) := by show _ = _; unfold fsA; rw [solP_yes hg, hS]
    have HBb : Hid (fsB cs = decide (0 < S.length)) := by show _ = _; unfold fsB; rw [solP_yes hg, hS]
    rw [hS] at HQ
    clear hg hall hS
    by_cases h0 : S.length = 0
    · obtain rfl := List.eq_nil_of_length_eq_zero h0
      clear h0
      go_enter Tryd.func25, Tryd.ntmps25
      go_wp2_with (first
        | (go_at_call 45; (with_reducible refine (pzGood_b cs true v _ hn HR.out HG.out).mono ?_); rintro e w1 ⟨rfl, b1⟩; have e0 := (blk1 (box_at w _ b1)).1; have hz := box_lt w _ b1; have B1 := chain HB.out b1; have A1 := HV.out.below B1)
        | (go_at_call 46; (refine (HQ.out _ A1).mono ?_); rintro e w2 ⟨⟨u, rfl, hu⟩, b2⟩; obtain ⟨a, cap, rfl⟩ := hu.val))
      go_ret2
      exact ⟨ret_sb (by rw [HA.out]; rfl) (by rw [HBb.out]; rfl), chain B1 b2⟩
    · have hp : 0 < S.length := by omega
      have hpi : (0 : Int) < (S.length : Int) := by omega
      have hq : ((S.length : Int) == 0) = false := by rw [beq_eq_false_iff_ne]; omega
      obtain ⟨n, hnn⟩ : ∃ n, n = S.length := ⟨_, rfl⟩
      have HN := Lib.hid hnn
      have HP := Lib.hid hp
      rw [← hnn] at hpi hq
      clear h0 hp hnn
      go_enter Tryd.func25, Tryd.ntmps25
      go_wp2_with (first
        | (go_at_call 45; (with_reducible refine (pzGood_b cs true v _ hn HR.out HG.out).mono ?_); rintro e w1 ⟨rfl, b1⟩; have e0 := (blk1 (box_at w _ b1)).1; have hz := box_lt w _ b1; have B1 := chain HB.out b1; have A1 := HV.out.below B1)
        | (go_at_call 46; (refine (HQ.out _ A1).mono ?_); rintro e w2 ⟨⟨u, rfl, hu⟩, b2⟩; obtain ⟨g, cap, rfl, _, hg, hc⟩ := hu.pos HP.out; have c0 := hc 0 HP.out; unfold strV at c0; rw [← HN.out]; clear hc))
      go_ret2
      exact ⟨ret_sb (by rw [HA.out, List.getD_eq_getElem?_getD]) (by rw [HBb.out, decide_eq_true HP.out]), chain B1 b2⟩
set_option maxHeartbeats 1000000 in
theorem iIs_any (cs : List Cl) (v : Value) (w : World) (hn : cs.length ≤ 1048576) (h : RdC cs v w) :
    Calls Tryd.prog 30 #[.agg #[v]] w fun e w' => e = .returned (.tuple #[.bool (isA cs), .bool (pzB cs)]) ∧ Below w.heap.size w w' := by
  have HR := Lib.hid (h.alloc (.cells #[v] 38))
  clear h
  have hb : Below w.heap.size w (w.alloc (.cells #[v] 38)) := (Below.refl _ _).alloc (Nat.le_refl _) _
  have HB := Lib.hid hb
  clear hb
  have HI := Lib.hid (iCnt_any cs v _ hn HR.out)
  have HX : Hid ((cntA cs == 1) = isA cs) := by
    show _ = _; unfold cntA isA; rw [Bool.eq_iff_iff]; simp; try omega
  obtain ⟨c, hc⟩ : ∃ c, c = cntA cs := ⟨_, rfl⟩
  rw [← hc] at HI HX
  clear hc
  go_enter Tryd.func30, Tryd.ntmps30
  go_wp2_with (go_at_call 24; (refine HI.out.mono ?_); rintro e w1 ⟨rfl, b1⟩)
  go_ret2
  exact ⟨ret_bb HX.out rfl, chain HB.out b1⟩
set_option maxHeartbeats 1000000 in
theorem sIs_any (cs : List Cl) (v : Value) (w : World) (hn : cs.length ≤ 1048576) (h : RdC cs v w) :
    Calls Tryd.prog 29 #[.agg #[v]] w fun e w' => e = .returned (.tuple #[.bool (isA cs), .bool (pzB cs)]) ∧ Below w.heap.size w w' := by
  have HV := Lib.hid h
  have HR := Lib.hid (h.alloc (.cells #[v] 38))
  clear h
  have hb : Below w.heap.size w (w.alloc (.cells #[v] 38)) := (Below.refl _ _).alloc (Nat.le_refl _) _
  have HB := Lib.hid hb
  clear hb
  cases hg : pzB cs with
  | false =>
    have HG := Lib.hid hg
    have HS : Hid (false = isA cs) := by show _ = _; unfold isA; rw [solP_no hg]; rfl
    clear hg
    go_enter Tryd.func29, Tryd.ntmps29
    go_wp2_with (go_at_call 45; (with_reducible refine (pzGood_b cs false v _ hn HR.out HG.out).mono ?_); rintro e w1 ⟨rfl, b1⟩)
    go_ret2
    exact ⟨ret_bb HS.out rfl, chain HB.out b1⟩
  | true =>
    have HG := Lib.hid hg
    have HS : Hid (decide ((sol cs).length = 1) = isA cs) := by show _ = _; unfold isA; rw [solP_yes hg]
    have hl6 := pz_len hg
    have hall := AllC.of hg
    have HQ := Lib.hid (fun W (hr : RdC cs v W) => solved_any cs v W (by omega) hall hr)
    rw [HS.out] at HQ
    clear hg hall
    go_enter Tryd.func29, Tryd.ntmps29
    go_wp2_with (first
      | (go_at_call 45; (with_reducible refine (pzGood_b cs true v _ hn HR.out HG.out).mono ?_); rintro e w1 ⟨rfl, b1⟩; have e0 := (blk1 (box_at w _ b1)).1; have hz := box_lt w _ b1; have B1 := chain HB.out b1; have A1 := HV.out.below B1)
      | (go_at_call 53; (refine (HQ.out _ A1).mono ?_); rintro e w2 ⟨rfl, b2⟩))
    go_ret2
    exact ⟨rfl, chain B1 b2⟩
theorem sSol_any (cs : List Cl) (v : Value) (w : World) (hn : cs.length ≤ 1048576) (h : RdC cs v w) :
    Calls Tryd.prog 15 #[.agg #[v]] w fun e w' => (∃ u, e = .returned (.tuple #[u, .bool (pzB cs)]) ∧ Strs w.heap.size (solP cs) u w') ∧ Below w.heap.size w w' := by
  have HV := Lib.hid h
  have HR := Lib.hid (h.alloc (.cells #[v] 38))
  clear h
  have hb : Below w.heap.size w (w.alloc (.cells #[v] 38)) := (Below.refl _ _).alloc (Nat.le_refl _) _
  have HB := Lib.hid hb
  clear hb
  cases hg : pzB cs with
  | false =>
    have HG := Lib.hid hg
    have HS := Lib.hid (solP_no hg)
    clear hg
    go_enter Tryd.func15, Tryd.ntmps15
    go_wp2_with (go_at_call 45; (with_reducible refine (pzGood_b cs false v _ hn HR.out HG.out).mono ?_); rintro e w1 ⟨rfl, b1⟩)
    go_ret2
    exact ⟨⟨_, rfl, by rw [HS.out]; exact Strs.nil _ _⟩, chain HB.out b1⟩
  | true =>
    have HG := Lib.hid hg
    have HS := Lib.hid (solP_yes hg)
    have hl6 := pz_len hg
    have hall := AllC.of hg
    have HQ := Lib.hid (fun W (hr : RdC cs v W) => pzAll_any cs v W (by omega) hall hr)
    clear hg hall
    go_enter Tryd.func15, Tryd.ntmps15
    go_wp2_with (first
      | (go_at_call 45; (with_reducible refine (pzGood_b cs true v _ hn HR.out HG.out).mono ?_); rintro e w1 ⟨rfl, b1⟩; have e0 := (blk1 (box_at w _ b1)).1; have hz := box_lt w _ b1; have B1 := chain HB.out b1; have A1 := HV.out.below B1)
      | (go_at_call 46; (refine (HQ.out _ A1).mono ?_); rintro e w2 ⟨⟨u, rfl, hu⟩, b2⟩))
    go_ret2
    exact ⟨⟨_, rfl, by rw [HS.out]; exact hu.mono B1.size⟩, chain B1 b2⟩
end Go.Proofs.YtakckgbkfnogbaaDoor
