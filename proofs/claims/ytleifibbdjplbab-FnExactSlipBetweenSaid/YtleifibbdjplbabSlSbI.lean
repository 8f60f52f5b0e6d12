/-
  The law of SlipBetween: the program.
-/
import Derived.Test.YtleifibbdjplbabSlSbS
namespace Go.Proofs.Ytleifibbdjplbab
open Go.RowKit

set_option maxRecDepth 100000 in
theorem partner_any (p q r : Int) (w : World) (hp : 0 ≤ p ∧ p ≤ 100) : Calls Try.prog 36 #[.agg #[.int .i64 p, .int .i64 q, .int .i64 r]] w fun e w' => e = .returned (.agg #[.int .i64 (p + 1), .int .i64 r, .int .i64 q]) ∧ Below w.heap.size w w' := by
  obtain ⟨h1, h2⟩ := hp
  go_enter Try.func36, Try.ntmps36
  go_wp2
  refine bodyPost_ret (results_cell_row rfl _ _ (w.heap.size + 1) 50 #[.int .i64 (p + 1), .int .i64 r, .int .i64 q] (0, 0) _ rfl ?_ Try.underlying50 rfl (by kernel_rfl)) rfl ⟨rfl, ?_⟩
  · have := heap_alloc_new (w.alloc (.cells #[.int .i64 p, .int .i64 q, .int .i64 r] 50)) (.cells #[.int .i64 (p + 1), .int .i64 r, .int .i64 q] 50)
    rw [World.size_alloc] at this; exact this
  · exact ((Below.refl _ _).alloc (Nat.le_refl _) _).alloc (by rw [World.size_alloc]; omega) _
/-- append of one slip to a slice of the call's own, in a region that draws. -/
theorem step_append_slip {w : World} {ops : Array Oper} {o : Oper} {a : Act} {K : Act → World → Prop} {Q : Exit → Act → World → Prop} {E : Prop} (hgd : o.guard = none) (s x : Operand)
    (ho : o.op = .call { callee := .builtin .append, args := #[s, x], argTypes := #[47, 47] })
    (B n : Nat) (cs : List Value) (v : Value) (hs : a.eval s = v) (hown : w.ownsRow B 50 3 v n cs) (k : Nat) (p q r : Int) (hx : a.eval x = .slice (some ⟨k, 0, none⟩) 1 1)
    (hc : w.heap[k]? = some (.cells #[.int .i64 p, .int .i64 q, .int .i64 r] 50 (0, 0))) (hlen : n ≤ 1000) (hB : B ≤ w.heap.size)
    (h : ∀ v' w', w'.ownsRow B 50 3 v' (n + 1) (cs ++ [.int .i64 p, .int .i64 q, .int .i64 r]) → Below B w w' → K (a.put o.dst v') w') :
    if Region.wanted o (yielded ops a.tmps) = true then Oper.wp Try.prog o a w K Q else E := by
  obtain ⟨i0, hi, hz0, hz1, hz2⟩ := info_parts (show (Try.prog.info? 50).map (fun i => (i.zero, i.size, i.bytes)) = some (some (.agg #[.int .i64 0, .int .i64 0, .int .i64 0]), 3, 24) by kernel_rfl)
  have hw : Region.wanted o (yielded ops a.tmps) = true := by simp [Region.wanted, hgd]
  rw [if_pos hw]
  refine wp_append_own w s x 47 ho B 50 i0 (.agg #[.int .i64 0, .int .i64 0, .int .i64 0]) 3 24 Try.underlying47 hi hz0 hz1 hz2 (by simp [Value.cells]) (by decide) v n cs hs hown ⟨k, 0, none⟩ 1 1 [.int .i64 p, .int .i64 q, .int .i64 r] hx rfl (World.news_of_block hc) ?_ ?_ ?_ hB ?_
  · intro u hu; simp at hu; rcases hu with rfl | rfl | rfl <;> rfl
  · unfold maxLen; omega
  · omega
  · intro v' w' h1 hg _
    exact h v' w' h1 ((Below.refl B w).grown hg hB (fun q hq => (World.ownsRow.lt hown q hq).1))
theorem ownsRow_drwN {w : World} {B n k : Nat} {T : TypeId} {xs : List Value} {v : Value} (h : w.ownsRow B T k v n xs) (q : Nat) : (w.drewN q).ownsRow B T k v n xs := h
theorem ownsRow_bel {w w' : World} {B n k : Nat} {T : TypeId} {xs : List Value} {v : Value} (h : w.ownsRow B T k v n xs) (hb : Below w.heap.size w w') : w'.ownsRow B T k v n xs :=
  h.kept (row := none) ⟨hb.os, hb.tape, hb.output, hb.size, fun j hj _ => hb.block j hj⟩ (by cases hv : v.ownBlock <;> simp)
set_option maxHeartbeats 2000000 in
theorem slipsB_any (s t : ByteArray) (w : World) (hs : s.size ≤ 12) (hsz : s.size = t.size) (hd1 : digB s.data.toList = true) (hd2 : digB t.data.toList = true) :
    Calls Try.prog 35 #[.string s, .string t] w fun e w' => (∃ u, e = .returned u ∧ w'.ownsRow w.heap.size 50 3 u (dfk s.data.toList t.data.toList s.size).length (slc s.data.toList t.data.toList (dfk s.data.toList t.data.toList s.size))) ∧ Below w.heap.size w w' := by
  have HD1 := Lib.hid hd1
  have HD2 := Lib.hid hd2
  clear hd1 hd2
  go_enter Try.func35, Try.ntmps35
  go_wp2
  go_loopw [5, 9] (fun vv iv wr => ∃ (k : Nat) (ds : List Nat), k ≤ s.size ∧ iv = .int .i64 k ∧ Hid (ds = dfk s.data.toList t.data.toList k) ∧ Hid (wr.ownsRow w.heap.size 50 3 vv ds.length (slc s.data.toList t.data.toList ds)) ∧ Below w.heap.size w wr) (fun _ iv _ => s.size - (intOf iv).toNat)
  case atStart => exact ⟨0, [], Nat.zero_le _, rfl, rfl, World.ownsRow_nil _ _ _ _, Below.refl _ _⟩
  case round =>
    obtain ⟨k, ds, hk, rfl, HY, HI, hb⟩ := hrel
    obtain ⟨wo, rfl⟩ : ∃ wo : World, wo = wr := ⟨_, rfl⟩
    by_cases hlt : k < s.size
    · have hlt2 : k < t.size := by omega
      have hi0 : (0 : Int) ≤ (k : Int) := by omega
      have hi1 : (k : Int) < (s.size : Int) := by omega
      have hi2 : (k : Int) < (t.size : Int) := by omega
      have hyl : ds.length ≤ 12 := by rw [HY.out]; have := dfk_len s.data.toList t.data.toList k; omega
      have hwz := hb.size
      by_cases hc : s[k] = t[k]
      · have HY2 : Hid (ds = dfk s.data.toList t.data.toList (k + 1)) := by show _ = _; rw [dfk_same (by rw [get_D s k hlt, get_D t k hlt2]; exact hc), HY.out]
        have hc2 : (s[k].toNat : Int) = (t[k].toNat : Int) := by rw [hc]
        have e1 : ((s[k].toNat : Int) != (t[k].toNat : Int)) = false := by rw [hc2]; simp
        go_wp2_with fail
        go_quiet (fail)
        all_goals go_wp2
        go_roundw
        case rel => exact ⟨k + 1, ds, by omega, by go_num, HY2, HI.out, below_drwN hb⟩
        case measure => simp [intOf]; omega
      · have HY2 : Hid (ds ++ [k] = dfk s.data.toList t.data.toList (k + 1)) := by show _ = _; rw [dfk_diff (by rw [get_D s k hlt, get_D t k hlt2]; exact hc), HY.out]
        have hc2 : ¬ (s[k].toNat : Int) = (t[k].toNat : Int) := fun e => hc (UInt8.toNat_inj.1 (by omega))
        have e1 : ((s[k].toNat : Int) != (t[k].toNat : Int)) = true := by simpa using hc2
        have g1 := dgt_get s k hlt
        have g2 := dgt_get t k hlt2
        have d1 := dgt_bd s.data.toList k HD1.out
        have d2 := dgt_bd t.data.toList k HD2.out
        obtain ⟨x, hx⟩ : ∃ x, x = dgt s.data.toList k := ⟨_, rfl⟩
        obtain ⟨y, hy⟩ : ∃ y, y = dgt t.data.toList k := ⟨_, rfl⟩
        have HY3 : Hid (slc s.data.toList t.data.toList (ds ++ [k]) = slc s.data.toList t.data.toList ds ++ [.int .i64 k, .int .i64 x, .int .i64 y]) := by show _ = _; rw [slc_snoc, hx, hy]
        rw [← hx] at g1 d1
        rw [← hy] at g2 d2
        have hu1 : IntKind.u8.wrap ((s[k].toNat : Int) - 48) = x := by
          obtain ⟨x', hx'⟩ : ∃ x' : Nat, x = (x' : Int) := ⟨x.toNat, by omega⟩
          rw [← g1, hx']; exact wrap_u8 x' (by omega)
        have hu2 : IntKind.u8.wrap ((t[k].toNat : Int) - 48) = y := by
          obtain ⟨y', hy'⟩ : ∃ y' : Nat, y = (y' : Int) := ⟨y.toNat, by omega⟩
          rw [← g2, hy']; exact wrap_u8 y' (by omega)
        have hx1 : IntKind.i64.wrap x = x := IntWalk.i64_in _ (by omega)
        have hy1 : IntKind.i64.wrap y = y := IntWalk.i64_in _ (by omega)
        clear g1 g2 hx hy
        go_wp2_with fail
        go_quiet (fail)
        go_wp2_with fail
        go_region_held_law (fun _ => True) (trivial)
          ((refine step_append_slip (by rfl) _ _ (by rfl) w.heap.size ds.length (slc s.data.toList t.data.toList ds) _ (by rfl) (ownsRow_bel (ownsRow_drwN HI.out (nq + 1)) ((Below.refl _ _).alloc (Nat.le_refl _) _)) wo.heap.size (k : Int) x y (by rfl) (by exact heap_alloc_new _ _) (by omega) (by rw [World.size_alloc]; show w.heap.size ≤ wo.heap.size + 1; omega) ?_; intro v' w5 hI5 hg5))
        all_goals
          go_wp2
          go_roundw
          case rel => exact ⟨k + 1, ds ++ [k], by omega, by go_num, HY2, by show World.ownsRow _ _ _ _ _ _ _; rw [HY3.out, List.length_append]; exact hI5, ((below_drwN (n := nq + 1) hb).alloc hwz _).trans hg5⟩
          case measure => simp [intOf]; omega
    · have HE : Hid (ds = dfk s.data.toList t.data.toList s.size) := by show _ = _; rw [HY.out]; congr 1; omega
      go_wp2
      go_ret
      exact ⟨⟨_, rfl, by rw [← HE.out]; exact HI.out⟩, hb⟩
theorem ownsRow_zero {w : World} {B k : Nat} {T : TypeId} {xs : List Value} {v : Value} (h : w.ownsRow B T k v 0 xs) : ∃ ao cap, v = .slice ao 0 cap := by
  rcases h.2 with ⟨rfl, _⟩ | ⟨g, cap, cur, rfl, _⟩
  · exact ⟨_, _, rfl⟩
  · exact ⟨_, _, rfl⟩
theorem sbB_eq (s t : ByteArray) : sbB s t = (ardB s 1 12 && ardB t s.size s.size) := by
  unfold sbB ardB
  congr 2
  simp only [decide_eq_decide]
  omega
set_option maxHeartbeats 4000000 in
theorem iSBtw_any (s t : ByteArray) (w : World) (hs : s.size ≤ maxLen) (ht : t.size ≤ maxLen) :
    Calls Try.prog 18 #[.string s, .string t] w fun e w' => e = .returned (.tuple #[.string (sbA s t), .bool (sbB s t)]) ∧ Below w.heap.size w w' := by
  obtain ⟨b1, hb1⟩ : ∃ b1, b1 = ardB s 1 12 := ⟨_, rfl⟩
  obtain ⟨b2, hb2⟩ : ∃ b2, b2 = ardB t s.size s.size := ⟨_, rfl⟩
  have hz : sbB s t = (b1 && b2) := by rw [hb1, hb2]; exact sbB_eq s t
  have HB1 : Hid (ardB s 1 12 = b1) := hb1.symm
  have HB2 : Hid (ardB t s.size s.size = b2) := hb2.symm
  clear hb1 hb2
  have HSB : Hid (∀ W : World, Calls Try.prog 35 #[.string s, .string t] W fun e w' => False ∧ e = .outgrown ∧ w' = w') ∨ True := .inr trivial
  clear HSB
  cases b1 with
  | false =>
    rw [Bool.false_and] at hz
    have HZ : Hid (⟨#[]⟩ = sbA s t) := by show _ = _; unfold sbA; rw [if_neg (by simp [hz])]
    have HZ2 : Hid (false = sbB s t) := hz.symm
    clear hz
    go_enter Try.func18, Try.ntmps18
    go_wp2_with (go_at_call 34; (with_reducible refine (areDigits_any s 1 12 _ hs).mono ?_); rintro e w1 ⟨rfl, rfl⟩; rw [HB1.out])
    go_ret2
    exact ⟨ret_sb HZ.out HZ2.out, Below.refl _ _⟩
  | true =>
    rw [Bool.true_and] at hz
    cases b2 with
    | false =>
      have HZ : Hid (⟨#[]⟩ = sbA s t) := by show _ = _; unfold sbA; rw [if_neg (by simp [hz])]
      have HZ2 : Hid (false = sbB s t) := hz.symm
      clear hz
      go_enter Try.func18, Try.ntmps18
      go_wp2_with (first | (go_at_call 34; (with_reducible refine (areDigits_any s 1 12 _ hs).mono ?_); rintro e w1 ⟨rfl, rfl⟩; rw [HB1.out]) | (go_at_call 34; (with_reducible refine (areDigits_any t s.size s.size _ ht).mono ?_); rintro e w1 ⟨rfl, rfl⟩; rw [HB2.out]))
      go_ret2
      exact ⟨ret_sb HZ.out HZ2.out, Below.refl _ _⟩
    | true =>
      have hp1 : (1 ≤ (s.size : Int) ∧ (s.size : Int) ≤ 12) ∧ digB s.data.toList = true := by have := HB1.out; simpa [ardB, and_assoc] using this
      have hp2 : ((s.size : Int) ≤ (t.size : Int) ∧ (t.size : Int) ≤ (s.size : Int)) ∧ digB t.data.toList = true := by have := HB2.out; simpa [ardB, and_assoc] using this
      have hs12 : s.size ≤ 12 := by omega
      have hsz : s.size = t.size := by omega
      have hd1 := hp1.2
      have hd2 := hp2.2
      have hA : sbA s t = sbT s.data.toList t.data.toList (dfk s.data.toList t.data.toList s.size) := by unfold sbA; rw [if_pos hz]
      have hsb := fun W => slipsB_any s t W hs12 hsz hd1 hd2
      have HM : Hid (∀ i ∈ dfk s.data.toList t.data.toList s.size, i < s.size) := fun i hi => ((dfk_mem s.data.toList t.data.toList s.size i).1 hi).1
      have hdl : (dfk s.data.toList t.data.toList s.size).length ≤ 12 := Nat.le_trans (dfk_len _ _ _) hs12
      obtain ⟨ds, hds⟩ : ∃ ds, ds = dfk s.data.toList t.data.toList s.size := ⟨_, rfl⟩
      rw [← hds] at hA hsb HM hdl
      have HA := Lib.hid hA
      have HSB := Lib.hid hsb
      have HZ2 : Hid (true = sbB s t) := hz.symm
      clear hp1 hp2 hd1 hd2 hA hsb hds hz hsz
      match ds, HA, HSB, HM, hdl with
      | [], HA, HSB, HM, _ =>
        have HF : Hid (tSame = sbA s t) := by show _ = _; rw [HA.out]; rfl
        go_enter Try.func18, Try.ntmps18
        go_wp2_with (first | (go_at_call 34; (with_reducible refine (areDigits_any s 1 12 _ hs).mono ?_); rintro e w1 ⟨rfl, rfl⟩; rw [HB1.out]) | (go_at_call 34; (with_reducible refine (areDigits_any t s.size s.size _ ht).mono ?_); rintro e w1 ⟨rfl, rfl⟩; rw [HB2.out]) | (go_at_call 35; (with_reducible refine (HSB.out _).mono ?_); rintro e w2 ⟨⟨u, rfl, hu⟩, b2⟩; obtain ⟨ao, cap, rfl⟩ := ownsRow_zero hu))
        go_ret2
        exact ⟨ret_sb HF.out HZ2.out, b2⟩
      | [i], HA, HSB, HM, _ =>
        have HF : Hid (tSlip = sbA s t) := by show _ = _; rw [HA.out]; rfl
        go_enter Try.func18, Try.ntmps18
        go_wp2_with (first | (go_at_call 34; (with_reducible refine (areDigits_any s 1 12 _ hs).mono ?_); rintro e w1 ⟨rfl, rfl⟩; rw [HB1.out]) | (go_at_call 34; (with_reducible refine (areDigits_any t s.size s.size _ ht).mono ?_); rintro e w1 ⟨rfl, rfl⟩; rw [HB2.out]) | (go_at_call 35; (with_reducible refine (HSB.out _).mono ?_); rintro e w2 ⟨⟨u, rfl, hu⟩, b2⟩; obtain ⟨g, cap, rfl, _⟩ := ownsRow_own1 hu (by simp)))
        go_ret2
        exact ⟨ret_sb HF.out HZ2.out, b2⟩
      | [i, j], HA, HSB, HM, _ =>
        have hm1 := HM.out i (by simp)
        have hm2 := HM.out j (by simp)
        obtain ⟨x1, hx1⟩ : ∃ x, x = dgt s.data.toList i := ⟨_, rfl⟩
        obtain ⟨y1, hy1⟩ : ∃ x, x = dgt t.data.toList i := ⟨_, rfl⟩
        obtain ⟨x2, hx2⟩ : ∃ x, x = dgt s.data.toList j := ⟨_, rfl⟩
        obtain ⟨y2, hy2⟩ : ∃ x, x = dgt t.data.toList j := ⟨_, rfl⟩
        have HS6 : Hid (slc s.data.toList t.data.toList [i, j] = [.int .i64 i, .int .i64 x1, .int .i64 y1, .int .i64 j, .int .i64 x2, .int .i64 y2]) := by show _ = _; rw [hx1, hy1, hx2, hy2]; rfl
        have HI : Hid (isSwp s.data.toList t.data.toList [i, j] = (decide (j = i + 1) && (decide (x2 = y1) && decide (y2 = x1)))) := by show _ = _; rw [hx1, hy1, hx2, hy2]; rfl
        have HT : Hid (sbT s.data.toList t.data.toList [i, j] = if isSwp s.data.toList t.data.toList [i, j] = true then tSwap else tMore) := rfl
        clear hx1 hy1 hx2 hy2
        by_cases P0 : j = i + 1
        · have q0 : ((j : Int) == (i : Int) + 1) = true := by simp [P0]
          by_cases P1 : x2 = y1
          · have q1 : (x2 == y1) = true := by simp [P1]
            by_cases P2 : y2 = x1
            · have q2 : (y2 == x1) = true := by simp [P2]
              have HF : Hid (tSwap = sbA s t) := by show _ = _; rw [HA.out, HT.out, HI.out, decide_eq_true P0, decide_eq_true P1, decide_eq_true P2]; rfl
              clear P0 P1 P2 HA HT HI HM
              go_enter Try.func18, Try.ntmps18
              go_wp2_with (first | (go_at_call 34; (with_reducible refine (areDigits_any s 1 12 _ hs).mono ?_); rintro e w1 ⟨rfl, rfl⟩; rw [HB1.out]) | (go_at_call 34; (with_reducible refine (areDigits_any t s.size s.size _ ht).mono ?_); rintro e w1 ⟨rfl, rfl⟩; rw [HB2.out]) | (go_at_call 35; (with_reducible refine (HSB.out _).mono ?_); rintro e w2 ⟨⟨u, rfl, hu⟩, b2⟩; obtain ⟨g, cap, rfl, hgl, hgc⟩ := ownsRow_own1 hu (by simp); rw [HS6.out] at hgc; have c0 : w2.cell? ⟨g, 0, none⟩ = some (.int .i64 (i : Int)) := (by have := hgc 0 (.int .i64 (i : Int)) (by simp); simpa [Addr.add] using this); have c1 : w2.cell? ⟨g, 1, none⟩ = some (.int .i64 x1) := (by have := hgc 1 (.int .i64 x1) (by simp); simpa [Addr.add] using this); have c2 : w2.cell? ⟨g, 2, none⟩ = some (.int .i64 y1) := (by have := hgc 2 (.int .i64 y1) (by simp); simpa [Addr.add] using this); have c3 : w2.cell? ⟨g, 3, none⟩ = some (.int .i64 (j : Int)) := (by have := hgc 3 (.int .i64 (j : Int)) (by simp); simpa [Addr.add] using this); have c4 : w2.cell? ⟨g, 4, none⟩ = some (.int .i64 x2) := (by have := hgc 4 (.int .i64 x2) (by simp); simpa [Addr.add] using this); have c5 : w2.cell? ⟨g, 5, none⟩ = some (.int .i64 y2) := (by have := hgc 5 (.int .i64 y2) (by simp); simpa [Addr.add] using this)))
              go_region_held3 (fun w' => w'.cell? ⟨g, 0, none⟩ = some (.int .i64 (i : Int)) ∧ w'.cell? ⟨g, 1, none⟩ = some (.int .i64 x1) ∧ w'.cell? ⟨g, 2, none⟩ = some (.int .i64 y1) ∧ w'.cell? ⟨g, 3, none⟩ = some (.int .i64 (j : Int)) ∧ w'.cell? ⟨g, 4, none⟩ = some (.int .i64 x2) ∧ w'.cell? ⟨g, 5, none⟩ = some (.int .i64 y2))
                (first | go_keep | exact ⟨m0, m1, m2, m3, m4, m5⟩)
                (first | (go_at_call 36; (with_reducible refine (partner_any (i : Int) x1 y1 _ ⟨by omega, by omega⟩).mono ?_); rintro e w3 ⟨rfl, b3⟩; have B3 : Below w2.heap.size w2 w3 := chain (w := w2) (by go_grown) b3; have m0 := (B3.cell (p := ⟨g, 0, none⟩) hgl).trans c0; have m1 := (B3.cell (p := ⟨g, 1, none⟩) hgl).trans c1; have m2 := (B3.cell (p := ⟨g, 2, none⟩) hgl).trans c2; have m3 := (B3.cell (p := ⟨g, 3, none⟩) hgl).trans c3; have m4 := (B3.cell (p := ⟨g, 4, none⟩) hgl).trans c4; have m5 := (B3.cell (p := ⟨g, 5, none⟩) hgl).trans c5))
              all_goals
                go_wp2
                go_ret2
                exact ⟨ret_sb HF.out HZ2.out, chain b2 B3⟩
            · have q2 : (y2 == x1) = false := beq_false_of_ne (by omega)
              have n2 : ¬ y2 = x1 := by omega
              have HF : Hid (tMore = sbA s t) := by show _ = _; rw [HA.out, HT.out, HI.out, decide_eq_true P0, decide_eq_true P1, decide_eq_false P2]; simp
              clear P0 P1 P2 HA HT HI HM
              go_enter Try.func18, Try.ntmps18
              go_wp2_with (first | (go_at_call 34; (with_reducible refine (areDigits_any s 1 12 _ hs).mono ?_); rintro e w1 ⟨rfl, rfl⟩; rw [HB1.out]) | (go_at_call 34; (with_reducible refine (areDigits_any t s.size s.size _ ht).mono ?_); rintro e w1 ⟨rfl, rfl⟩; rw [HB2.out]) | (go_at_call 35; (with_reducible refine (HSB.out _).mono ?_); rintro e w2 ⟨⟨u, rfl, hu⟩, b2⟩; obtain ⟨g, cap, rfl, hgl, hgc⟩ := ownsRow_own1 hu (by simp); rw [HS6.out] at hgc; have c0 : w2.cell? ⟨g, 0, none⟩ = some (.int .i64 (i : Int)) := (by have := hgc 0 (.int .i64 (i : Int)) (by simp); simpa [Addr.add] using this); have c1 : w2.cell? ⟨g, 1, none⟩ = some (.int .i64 x1) := (by have := hgc 1 (.int .i64 x1) (by simp); simpa [Addr.add] using this); have c2 : w2.cell? ⟨g, 2, none⟩ = some (.int .i64 y1) := (by have := hgc 2 (.int .i64 y1) (by simp); simpa [Addr.add] using this); have c3 : w2.cell? ⟨g, 3, none⟩ = some (.int .i64 (j : Int)) := (by have := hgc 3 (.int .i64 (j : Int)) (by simp); simpa [Addr.add] using this); have c4 : w2.cell? ⟨g, 4, none⟩ = some (.int .i64 x2) := (by have := hgc 4 (.int .i64 x2) (by simp); simpa [Addr.add] using this); have c5 : w2.cell? ⟨g, 5, none⟩ = some (.int .i64 y2) := (by have := hgc 5 (.int .i64 y2) (by simp); simpa [Addr.add] using this)))
              go_region_held3 (fun w' => w'.cell? ⟨g, 0, none⟩ = some (.int .i64 (i : Int)) ∧ w'.cell? ⟨g, 1, none⟩ = some (.int .i64 x1) ∧ w'.cell? ⟨g, 2, none⟩ = some (.int .i64 y1) ∧ w'.cell? ⟨g, 3, none⟩ = some (.int .i64 (j : Int)) ∧ w'.cell? ⟨g, 4, none⟩ = some (.int .i64 x2) ∧ w'.cell? ⟨g, 5, none⟩ = some (.int .i64 y2))
                (first | go_keep | exact ⟨m0, m1, m2, m3, m4, m5⟩)
                (first | (go_at_call 36; (with_reducible refine (partner_any (i : Int) x1 y1 _ ⟨by omega, by omega⟩).mono ?_); rintro e w3 ⟨rfl, b3⟩; have B3 : Below w2.heap.size w2 w3 := chain (w := w2) (by go_grown) b3; have m0 := (B3.cell (p := ⟨g, 0, none⟩) hgl).trans c0; have m1 := (B3.cell (p := ⟨g, 1, none⟩) hgl).trans c1; have m2 := (B3.cell (p := ⟨g, 2, none⟩) hgl).trans c2; have m3 := (B3.cell (p := ⟨g, 3, none⟩) hgl).trans c3; have m4 := (B3.cell (p := ⟨g, 4, none⟩) hgl).trans c4; have m5 := (B3.cell (p := ⟨g, 5, none⟩) hgl).trans c5))
              all_goals
                go_wp2
                go_ret2
                exact ⟨ret_sb HF.out HZ2.out, chain b2 B3⟩
          · have q1 : (x2 == y1) = false := beq_false_of_ne (by omega)
            have n1 : ¬ x2 = y1 := by omega
            have HF : Hid (tMore = sbA s t) := by show _ = _; rw [HA.out, HT.out, HI.out, decide_eq_true P0, decide_eq_false P1]; simp
            clear P0 P1 HA HT HI HM
            go_enter Try.func18, Try.ntmps18
            go_wp2_with (first | (go_at_call 34; (with_reducible refine (areDigits_any s 1 12 _ hs).mono ?_); rintro e w1 ⟨rfl, rfl⟩; rw [HB1.out]) | (go_at_call 34; (with_reducible refine (areDigits_any t s.size s.size _ ht).mono ?_); rintro e w1 ⟨rfl, rfl⟩; rw [HB2.out]) | (go_at_call 35; (with_reducible refine (HSB.out _).mono ?_); rintro e w2 ⟨⟨u, rfl, hu⟩, b2⟩; obtain ⟨g, cap, rfl, hgl, hgc⟩ := ownsRow_own1 hu (by simp); rw [HS6.out] at hgc; have c0 : w2.cell? ⟨g, 0, none⟩ = some (.int .i64 (i : Int)) := (by have := hgc 0 (.int .i64 (i : Int)) (by simp); simpa [Addr.add] using this); have c1 : w2.cell? ⟨g, 1, none⟩ = some (.int .i64 x1) := (by have := hgc 1 (.int .i64 x1) (by simp); simpa [Addr.add] using this); have c2 : w2.cell? ⟨g, 2, none⟩ = some (.int .i64 y1) := (by have := hgc 2 (.int .i64 y1) (by simp); simpa [Addr.add] using this); have c3 : w2.cell? ⟨g, 3, none⟩ = some (.int .i64 (j : Int)) := (by have := hgc 3 (.int .i64 (j : Int)) (by simp); simpa [Addr.add] using this); have c4 : w2.cell? ⟨g, 4, none⟩ = some (.int .i64 x2) := (by have := hgc 4 (.int .i64 x2) (by simp); simpa [Addr.add] using this); have c5 : w2.cell? ⟨g, 5, none⟩ = some (.int .i64 y2) := (by have := hgc 5 (.int .i64 y2) (by simp); simpa [Addr.add] using this)))
            go_region_held3 (fun w' => w'.cell? ⟨g, 0, none⟩ = some (.int .i64 (i : Int)) ∧ w'.cell? ⟨g, 1, none⟩ = some (.int .i64 x1) ∧ w'.cell? ⟨g, 2, none⟩ = some (.int .i64 y1) ∧ w'.cell? ⟨g, 3, none⟩ = some (.int .i64 (j : Int)) ∧ w'.cell? ⟨g, 4, none⟩ = some (.int .i64 x2) ∧ w'.cell? ⟨g, 5, none⟩ = some (.int .i64 y2))
              (first | go_keep | exact ⟨m0, m1, m2, m3, m4, m5⟩)
              (first | (go_at_call 36; (with_reducible refine (partner_any (i : Int) x1 y1 _ ⟨by omega, by omega⟩).mono ?_); rintro e w3 ⟨rfl, b3⟩; have B3 : Below w2.heap.size w2 w3 := chain (w := w2) (by go_grown) b3; have m0 := (B3.cell (p := ⟨g, 0, none⟩) hgl).trans c0; have m1 := (B3.cell (p := ⟨g, 1, none⟩) hgl).trans c1; have m2 := (B3.cell (p := ⟨g, 2, none⟩) hgl).trans c2; have m3 := (B3.cell (p := ⟨g, 3, none⟩) hgl).trans c3; have m4 := (B3.cell (p := ⟨g, 4, none⟩) hgl).trans c4; have m5 := (B3.cell (p := ⟨g, 5, none⟩) hgl).trans c5))
            all_goals
              go_wp2
              go_ret2
              exact ⟨ret_sb HF.out HZ2.out, chain b2 B3⟩
        · have q0 : ((j : Int) == (i : Int) + 1) = false := beq_false_of_ne (by omega)
          have n0 : ¬ (j : Int) = (i : Int) + 1 := by omega
          have HF : Hid (tMore = sbA s t) := by show _ = _; rw [HA.out, HT.out, HI.out, decide_eq_false P0]; simp
          clear P0 HA HT HI HM
          go_enter Try.func18, Try.ntmps18
          go_wp2_with (first | (go_at_call 34; (with_reducible refine (areDigits_any s 1 12 _ hs).mono ?_); rintro e w1 ⟨rfl, rfl⟩; rw [HB1.out]) | (go_at_call 34; (with_reducible refine (areDigits_any t s.size s.size _ ht).mono ?_); rintro e w1 ⟨rfl, rfl⟩; rw [HB2.out]) | (go_at_call 35; (with_reducible refine (HSB.out _).mono ?_); rintro e w2 ⟨⟨u, rfl, hu⟩, b2⟩; obtain ⟨g, cap, rfl, hgl, hgc⟩ := ownsRow_own1 hu (by simp); rw [HS6.out] at hgc; have c0 : w2.cell? ⟨g, 0, none⟩ = some (.int .i64 (i : Int)) := (by have := hgc 0 (.int .i64 (i : Int)) (by simp); simpa [Addr.add] using this); have c1 : w2.cell? ⟨g, 1, none⟩ = some (.int .i64 x1) := (by have := hgc 1 (.int .i64 x1) (by simp); simpa [Addr.add] using this); have c2 : w2.cell? ⟨g, 2, none⟩ = some (.int .i64 y1) := (by have := hgc 2 (.int .i64 y1) (by simp); simpa [Addr.add] using this); have c3 : w2.cell? ⟨g, 3, none⟩ = some (.int .i64 (j : Int)) := (by have := hgc 3 (.int .i64 (j : Int)) (by simp); simpa [Addr.add] using this); have c4 : w2.cell? ⟨g, 4, none⟩ = some (.int .i64 x2) := (by have := hgc 4 (.int .i64 x2) (by simp); simpa [Addr.add] using this); have c5 : w2.cell? ⟨g, 5, none⟩ = some (.int .i64 y2) := (by have := hgc 5 (.int .i64 y2) (by simp); simpa [Addr.add] using this)))
          go_region_held3 (fun w' => w'.cell? ⟨g, 0, none⟩ = some (.int .i64 (i : Int)) ∧ w'.cell? ⟨g, 1, none⟩ = some (.int .i64 x1) ∧ w'.cell? ⟨g, 2, none⟩ = some (.int .i64 y1) ∧ w'.cell? ⟨g, 3, none⟩ = some (.int .i64 (j : Int)) ∧ w'.cell? ⟨g, 4, none⟩ = some (.int .i64 x2) ∧ w'.cell? ⟨g, 5, none⟩ = some (.int .i64 y2))
            (first | go_keep | exact ⟨m0, m1, m2, m3, m4, m5⟩)
            (first | (go_at_call 36; (with_reducible refine (partner_any (i : Int) x1 y1 _ ⟨by omega, by omega⟩).mono ?_); rintro e w3 ⟨rfl, b3⟩; have B3 : Below w2.heap.size w2 w3 := chain (w := w2) (by go_grown) b3; have m0 := (B3.cell (p := ⟨g, 0, none⟩) hgl).trans c0; have m1 := (B3.cell (p := ⟨g, 1, none⟩) hgl).trans c1; have m2 := (B3.cell (p := ⟨g, 2, none⟩) hgl).trans c2; have m3 := (B3.cell (p := ⟨g, 3, none⟩) hgl).trans c3; have m4 := (B3.cell (p := ⟨g, 4, none⟩) hgl).trans c4; have m5 := (B3.cell (p := ⟨g, 5, none⟩) hgl).trans c5))
          all_goals
            go_wp2
            go_ret2
            exact ⟨ret_sb HF.out HZ2.out, chain b2 B3⟩
      | i :: j :: l :: rest, HA, HSB, HM, hdl =>
        have HF : Hid (tMore = sbA s t) := by show _ = _; rw [HA.out]; rfl
        obtain ⟨n, hn⟩ : ∃ n : Nat, n = (i :: j :: l :: rest).length := ⟨_, rfl⟩
        have hn3 : 3 ≤ n := by rw [hn]; simp
        rw [← hn] at hdl HSB
        have q0 : ((n : Int) == 0) = false := beq_false_of_ne (by omega)
        have q1 : ((n : Int) == 1) = false := beq_false_of_ne (by omega)
        have q2 : ((n : Int) == 2) = false := beq_false_of_ne (by omega)
        have p0 : ¬ (n : Int) = 0 := by omega
        have p1 : ¬ (n : Int) = 1 := by omega
        have p2 : ¬ (n : Int) = 2 := by omega
        clear hn HA HM
        go_enter Try.func18, Try.ntmps18
        go_wp2_with (first | (go_at_call 34; (with_reducible refine (areDigits_any s 1 12 _ hs).mono ?_); rintro e w1 ⟨rfl, rfl⟩; rw [HB1.out]) | (go_at_call 34; (with_reducible refine (areDigits_any t s.size s.size _ ht).mono ?_); rintro e w1 ⟨rfl, rfl⟩; rw [HB2.out]) | (go_at_call 35; (with_reducible refine (HSB.out _).mono ?_); rintro e w2 ⟨⟨u, rfl, hu⟩, b2⟩; obtain ⟨g, cap, rfl, _⟩ := ownsRow_own1 hu (by omega)))
        go_quiet (fail)
        all_goals go_wp2
        go_ret2
        exact ⟨ret_sb HF.out HZ2.out, below_drwN b2⟩
end Go.Proofs.Ytleifibbdjplbab
