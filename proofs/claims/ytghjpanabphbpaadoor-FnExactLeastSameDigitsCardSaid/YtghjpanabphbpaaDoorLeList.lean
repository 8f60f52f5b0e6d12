/-
  Least numbers: the model's list of digits; digit products and sums of it.
-/
import Derived.Test.YtghjpanabphbpaaDoorLeLeaf
import Derived.Test.YtghjpanabphbpaaDoorDiSum
import Derived.Test.YtghjpanabphbpaaDoorLeSlice
import Derived.Maps.AppendAt
namespace Go.Proofs.YtghjpanabphbpaaDoor
open Go.RowKit
set_option maxRecDepth 100000

/-- append of a slice of numbers to a new slice of one number. -/
theorem wpList_front (w : World) {ops : Array Oper} {rest : List Oper} {o : Oper} {a : Act} {Q : Exit → Act → World → Prop} (hgd : o.guard = none) (s x : Operand)
    (ho : o.op = .call { callee := .builtin .append, args := #[s, x], argTypes := #[33, 33] })
    (k : Nat) (y : Int) (hs : a.eval s = .slice (some ⟨k, 0, none⟩) 1 1) (hb : Blk w k #[.int .i64 y] 3) (C : Nat) (xs : List Int) (u : Value) (hx : a.eval x = u) (hu : Ints C xs u w) (h0 : 0 < xs.length) (hlen : xs.length ≤ 1000)
    (h : ∀ v' w', Ints k (y :: xs) v' w' → Below k w w' → wpList Tryd.prog ops Q rest (a.put o.dst v') w') :
    wpList Tryd.prog ops Q (o :: rest) a w := by
  obtain ⟨i0, hi, hz0, hz1, hz2⟩ := info_parts (show (Tryd.prog.info? 3).map (fun i => (i.zero, i.size, i.bytes)) = some (some (.int .i64 0), 1, 8) by kernel_rfl)
  have hown : w.ownsRow k 3 1 (.slice (some ⟨k, 0, none⟩) 1 1) 1 [.int .i64 y] := ⟨rfl, .inr ⟨k, 1, _, rfl, Nat.le_refl _, hb, Nat.le_refl _, by unfold maxLen; omega, rfl, rfl⟩⟩
  have hk := hb.lt
  rcases hu.form with ⟨ao, cap', hv, he⟩ | ⟨g, cap, hv, _, hg, hc, _⟩
  · omega
  · refine wpList_append_own_at _ hgd s x 33 ho k 3 i0 (.int .i64 0) 1 8 Tryd.underlying33 hi hz0 hz1 hz2 rfl (by decide) _ 1 [.int .i64 y] hs hown ⟨g, 0, none⟩ xs.length cap (xs.map (Value.int .i64)) (hx.trans hv) (by simp) ?_ ?_ (by unfold maxLen; omega) (by omega) (by omega) ?_
    · intro j z hj
      rw [List.getElem?_map] at hj
      by_cases hlt : j < xs.length
      · rw [List.getElem?_eq_getElem hlt] at hj
        simp at hj
        subst hj
        have h9 := hc j hlt
        simp [List.getD, List.getElem?_eq_getElem hlt] at h9
        have e : (⟨g, 0, none⟩ : Addr).add j = ⟨g, j, none⟩ := by simp [Addr.add]; intro h; exact h.symm
        rw [e]; exact h9
      · rw [List.getElem?_eq_none (by omega)] at hj; cases hj
    · intro z hz
      obtain ⟨q, _, rfl⟩ := List.mem_map.1 hz
      rfl
    · intro v' w' h1 hgr _ _
      refine h v' w' ?_ ((Below.refl k w).grown hgr (by omega) (fun q hq => (World.ownsRow.lt hown q hq).1))
      unfold Ints
      rw [List.length_cons, Nat.add_comm]
      simpa using h1
theorem map_len (D : List UInt8) : (D.map dv).length = D.length := by simp
theorem map_getD (D : List UInt8) (i : Nat) (h : i < D.length) : (D.map dv).getD i 0 = dv (D.getD i 48) := by
  rw [List.getD_eq_getElem?_getD, List.getD_eq_getElem?_getD, List.getElem?_map, List.getElem?_eq_getElem h]; rfl
theorem dv_dc' (u : Nat) (h : u ≤ 9) : dv (dc u) = (u : Int) := dv_dc h
set_option maxHeartbeats 1000000 in
theorem leList_any (n : Nat) (w : World) (hn : n ≤ 1000000000000) :
    Calls Tryd.prog 50 #[.int .i64 n] w fun e w' => (∃ v, e = .returned v ∧ Ints w.heap.size ((Lib.decDigits n).map dv) v w') ∧ Below w.heap.size w w' := by
  have hL := dec_13 hn
  have HE0 : Hid ((n : Int) % 10 = ((n % 10 : Nat) : Int)) := by show _ = _; push_cast; rfl
  have HE1 : Hid ((n : Int) / 10 = ((n / 10 : Nat) : Int)) := by show _ = _; push_cast; rfl
  go_enter Tryd.func50, Tryd.ntmps50
  go_wp2
  go_loopw [0, 3] (fun nv ov wr => ∃ (q : Nat) (D : List UInt8), q ≤ 1000000000000 ∧ nv = .int .i64 q ∧ 0 < D.length ∧ Hid ((q = 0 → Lib.decDigits n = D) ∧ (0 < q → Lib.decDigits n = Lib.decDigits q ++ D)) ∧ Hid (Ints w.heap.size (D.map dv) ov wr) ∧ Below w.heap.size w wr) (fun nv _ _ => (intOf nv).toNat)
  case atStart =>
    refine ⟨n / 10, [dc (n % 10)], by omega, val_int HE1.out, by simp, ⟨fun h => ?_, fun h => ?_⟩, ?_, by go_grown⟩
    · rw [dec_small (show n < 10 by omega), Nat.mod_eq_of_lt (show n < 10 by omega)]
    · exact dec_big (by omega)
    · show Ints _ _ _ _
      have hb := Blk.new w #[.int .i64 ((n : Int) % 10)] 3
      have e : ([dc (n % 10)] : List UInt8).map dv = [(n : Int) % 10] := by
        rw [List.map_cons, List.map_nil, dv_dc (by omega), HE0.out]
      rw [e]
      exact ⟨rfl, .inr ⟨w.heap.size, 1, _, rfl, Nat.le_refl _, hb, Nat.le_refl _, by unfold maxLen; omega, rfl, rfl⟩⟩
  case round =>
    obtain ⟨q, D, hq, rfl, hD, HK, HI, hbl⟩ := hrel
    obtain ⟨wo, rfl⟩ : ∃ wo : World, wo = wr := ⟨_, rfl⟩
    by_cases hq0 : q = 0
    · subst hq0
      have HL := Lib.hid (HK.out.1 rfl)
      clear HK
      go_wp2
      go_ret
      exact ⟨⟨_, rfl, by rw [HL.out]; exact HI.out⟩, hbl⟩
    · have hq1 : 0 < (q : Int) := by omega
      have hDl : D.length ≤ 13 := by
        have := HK.out.2 (by omega)
        have h2 := congrArg List.length this
        rw [List.length_append] at h2; omega
      have HI0 := Lib.hid (HI.out.below ((Below.refl _ _).alloc (Nat.le_refl _) (.cells #[.int .i64 ((q : Int) % 10)] 3)))
      have hs := hbl.size
      have HQ : Hid ((q : Int) / 10 = ((q / 10 : Nat) : Int)) := by show _ = _; push_cast; rfl
      have HX : Hid (((q : Int) % 10) :: D.map dv = (dc (q % 10) :: D).map dv) := by show _ = _; rw [List.map_cons, dv_dc (by omega)]; push_cast; rfl
      have HK' : Hid ((q / 10 = 0 → Lib.decDigits n = dc (q % 10) :: D) ∧ (0 < q / 10 → Lib.decDigits n = Lib.decDigits (q / 10) ++ (dc (q % 10) :: D))) := by
        refine ⟨fun h => ?_, fun h => ?_⟩
        · rw [HK.out.2 (by omega), dec_small (show q < 10 by omega), Nat.mod_eq_of_lt (show q < 10 by omega)]; rfl
        · rw [HK.out.2 (by omega), dec_big (show ¬ q < 10 by omega), List.append_assoc]; rfl
      go_wp2_with (at_builtin; refine wpList_front _ rfl _ _ rfl wo.heap.size ((q : Int) % 10) rfl (Blk.new _ _ _) w.heap.size (D.map dv) _ rfl HI0.out (by rw [map_len]; exact hD) (by rw [map_len]; omega) ?_; intro v2 w2 i2 b2; have HI2 := Lib.hid i2; clear i2)
      go_roundw
      case rel =>
        refine ⟨q / 10, dc (q % 10) :: D, by omega, val_int HQ.out, by simp, HK', ?_, ?_⟩
        · show Ints _ _ _ _
          rw [← HX.out]; exact HI2.out.mono hs
        · exact ((hbl.alloc hs _).trans (b2.mono (by omega)))
      case measure => simp [intOf]; omega
theorem nprod_eq (n : Nat) : nprod (n : Int) = dprod (Lib.decDigits n) := by unfold nprod; rw [Int.toNat_natCast]
theorem take_getD (D : List UInt8) (k : Nat) (h : k < D.length) : D.take (k + 1) = D.take k ++ [D.getD k 48] := by
  rw [List.take_succ_eq_append_getElem h, List.getD_eq_getElem?_getD, List.getElem?_eq_getElem h]; rfl
theorem getD_dig {D : List UInt8} (hd : digB D = true) {k : Nat} (h : k < D.length) : 0 ≤ dv (D.getD k 48) ∧ dv (D.getD k 48) ≤ 9 := by
  refine dv_bd ?_
  rw [List.getD_eq_getElem?_getD, List.getElem?_eq_getElem h]
  unfold digB at hd
  rw [List.all_eq_true] at hd
  exact hd _ (List.getElem_mem _)
set_option maxHeartbeats 1000000 in
theorem leProduct_any (n : Nat) (w : World) (hn : n ≤ 1000000000000) :
    Calls Tryd.prog 62 #[.int .i64 n] w fun e w' => e = .returned (.int .i64 (nprod n)) ∧ Below w.heap.size w w' := by
  have HL := Lib.hid (leList_any n w hn)
  rw [nprod_eq]
  have hdg := dec_dig n
  have hl13 := dec_13 hn
  have hl0 := dec_pos n
  obtain ⟨D, hD⟩ : ∃ D, Lib.decDigits n = D := ⟨_, rfl⟩
  rw [hD] at hdg hl13 hl0 HL ⊢
  have HDG := Lib.hid hdg
  clear hD hdg
  go_enter Tryd.func62, Tryd.ntmps62
  go_wp2_with (go_at_call 50; refine HL.out.mono ?_; rintro e w1 ⟨⟨v, rfl, hi⟩, b1⟩; rcases hi.form with ⟨ao, cap', rfl, he⟩ | ⟨g, cap, rfl, _, hg, hc, _⟩)
  · rw [map_len] at he; omega
  · rw [map_len] at hc
    have HC := Lib.hid hc
    obtain ⟨m, hm⟩ : ∃ m, D.length = m := ⟨_, rfl⟩
    rw [hm] at hl13 hl0 HC ⊢
    have HM := Lib.hid hm
    clear hc hi hm
    go_wp2
    go_loop [3, 9] (fun t i => ∃ (k : Nat) (S : Int), k ≤ m ∧ i = .int .i64 k ∧ t = .int .i64 S ∧ Hid (S = dprod (D.take k))) (fun _ i => m - (intOf i).toNat)
    case atStart => exact ⟨0, 1, Nat.zero_le _, rfl, rfl, rfl⟩
    case round =>
      obtain ⟨k, S, hk, rfl, rfl, HS⟩ := hrel
      have hSb := dprod_13 (D.take k) (digB_take _ _ HDG.out) (by have : (D.take k).length ≤ k := List.length_take_le _ _; omega)
      rw [← HS.out] at hSb
      obtain ⟨hS0, hS1⟩ := hSb
      by_cases hlt : k < m
      · have hkD : k < D.length := by rw [HM.out]; exact hlt
        have hjb := getD_dig HDG.out hkD
        have c0 := HC.out k hlt
        rw [map_getD D k hkD] at c0
        obtain ⟨x, hx⟩ : ∃ x : Int, dv (D.getD k 48) = x := ⟨_, rfl⟩
        rw [hx] at hjb c0
        obtain ⟨hx0, hx1⟩ := hjb
        have HS' : Hid (S * x = dprod (D.take (k + 1))) := by show _ = _; rw [take_getD D k hkD, dprod_snoc, HS.out, ← hx]
        have hp : 0 ≤ S * x ∧ S * x ≤ 2541865828329 * 9 := ⟨Int.mul_nonneg hS0 (by omega), Int.mul_le_mul hS1 (by omega) (by omega) (by omega)⟩
        obtain ⟨hp0, hp1⟩ := hp
        clear hx
        go_wp2
        go_round
        case rel => exact ⟨k + 1, _, by omega, by go_num, rfl, HS'⟩
        case measure => simp [intOf]; omega
      · have HR : Hid (S = dprod D) := by show _ = _; rw [HS.out, show k = D.length by rw [HM.out]; omega, List.take_length]
        go_wp2
        go_ret
        exact ⟨ret_int HR.out, b1⟩
end Go.Proofs.YtghjpanabphbpaaDoor
