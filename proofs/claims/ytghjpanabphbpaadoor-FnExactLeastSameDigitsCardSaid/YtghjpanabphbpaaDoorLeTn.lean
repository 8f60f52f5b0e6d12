/-
  Least numbers: the model's turn of a list of digits.
-/
import Derived.Test.YtghjpanabphbpaaDoorLeList
import Derived.Test.YtghjpanabphbpaaDoorLeByt
import Derived.Deep.AppendSrc
import Derived.Lib.SliceRun
namespace Go.Proofs.YtghjpanabphbpaaDoor
open Go.RowKit Go.Deep
set_option maxRecDepth 100000

/-- append of all of a slice to an empty one. -/
theorem wpList_append_all (w : World) {ops : Array Oper} {rest : List Oper} {o : Oper} {a : Act} {Q : Exit → Act → World → Prop} (hgd : o.guard = none) (s x : Operand)
    (ho : o.op = .call { callee := .builtin .append, args := #[s, x], argTypes := #[33, 33] })
    (k : Nat) (hs : a.eval s = .slice (some ⟨k, 0, none⟩) 0 0) (hb : Blk w k #[] 3) (C : Nat) (xs : List Int) (u : Value) (hx : a.eval x = u) (hu : Ints C xs u w) (hlen : xs.length ≤ 1000)
    (h : ∀ v' w', Ints k xs v' w' → Below k w w' → wpList Tryd.prog ops Q rest (a.put o.dst v') w') :
    wpList Tryd.prog ops Q (o :: rest) a w := by
  obtain ⟨i0, hi, hz0, hz1, hz2⟩ := info_parts (show (Tryd.prog.info? 3).map (fun i => (i.zero, i.size, i.bytes)) = some (some (.int .i64 0), 1, 8) by kernel_rfl)
  have hown : w.ownsRow k 3 1 (.slice (some ⟨k, 0, none⟩) 0 0) 0 [] := ⟨rfl, .inr ⟨k, 0, _, rfl, Nat.le_refl _, hb, Nat.le_refl _, by unfold maxLen; omega, rfl, rfl⟩⟩
  have hk := hb.lt
  have hu' := hu
  rcases hu'.2 with ⟨rfl, h0⟩ | ⟨g, cap, cur, rfl, _⟩
  · obtain rfl : xs = [] := List.eq_nil_of_length_eq_zero h0
    have hr := run_append_room_src (P := Tryd.prog) w 33 33 o.type 3 i0 Tryd.underlying33 hi k 0 0 0 (.slice none 0 0) 0 [] (Src.ofNil w Tryd.underlying33 0) (Nat.le_refl _) (fun j hj => by simp at hj) (fun j hj => by simp at hj)
    have hsc : w.setCells k (0 + 0 * i0.size) [] = w := rfl
    rw [hsc] at hr
    refine wpList_plain hgd fun K hK => ?_
    unfold Oper.wp execOp
    simp only [ho, resolve, invoke, builtin, Sem.run_bind, Sem.run_pure, Result.andThen_ok, List.map_toArray, List.map_cons, List.map_nil, hs, hx, hr]
    exact hK _ _ (h _ w hown (Below.refl _ _))
  · rcases hu.form with ⟨ao, cap', hv, h0⟩ | ⟨g', cap', hv, _, hg, hc, _⟩
    · simp only [Value.slice.injEq] at hv
      obtain ⟨rfl, _, rfl⟩ := hv
      obtain rfl : xs = [] := List.eq_nil_of_length_eq_zero h0
      refine wpList_append_own_at _ hgd s x 33 ho k 3 i0 (.int .i64 0) 1 8 Tryd.underlying33 hi hz0 hz1 hz2 rfl (by decide) _ 0 [] hs hown ⟨g, 0, none⟩ 0 cap [] hx rfl (fun j z hj => by simp at hj) (fun z hz => by cases hz) (by unfold maxLen; omega) (by omega) (by omega) ?_
      intro v' w' h1 hgr _ _
      exact h v' w' (by simpa [Ints] using h1) ((Below.refl k w).grown hgr (by omega) (fun q hq => (World.ownsRow.lt hown q hq).1))
    · simp only [Value.slice.injEq, Option.some.injEq, Addr.mk.injEq] at hv
      obtain ⟨⟨rfl, _⟩, _, rfl⟩ := hv
      refine wpList_append_own_at _ hgd s x 33 ho k 3 i0 (.int .i64 0) 1 8 Tryd.underlying33 hi hz0 hz1 hz2 rfl (by decide) _ 0 [] hs hown ⟨g, 0, none⟩ xs.length cap (xs.map (Value.int .i64)) hx (by simp) ?_ ?_ (by unfold maxLen; omega) (by omega) (by omega) ?_
      · intro j z hj
        rw [List.getElem?_map] at hj
        by_cases hlt : j < xs.length
        · rw [List.getElem?_eq_getElem hlt] at hj
          simp at hj
          subst hj
          have h9 := hc j hlt
          simp [List.getD, List.getElem?_eq_getElem hlt] at h9
          have e : (⟨g, 0, none⟩ : Addr).add j = ⟨g, j, none⟩ := by simp [Addr.add]; intro h; exact h.symm
          rw [e]; exact h9
        · rw [List.getElem?_eq_none (by omega)] at hj; cases hj
      · intro z hz
        obtain ⟨q, _, rfl⟩ := List.mem_map.1 hz
        rfl
      · intro v' w' h1 hgr _ _
        exact h v' w' (by simpa [Ints] using h1) ((Below.refl k w).grown hgr (by omega) (fun q hq => (World.ownsRow.lt hown q hq).1))
theorem own_any (B : Nat) (xs : List Int) (v : Value) (w : World) (hl : xs.length ≤ 1000) (h : Ints B xs v w) :
    Calls Tryd.prog 73 #[v] w fun e w' => (∃ u, e = .returned u ∧ Ints w.heap.size xs u w') ∧ Below w.heap.size w w' := by
  have HI := Lib.hid h
  go_enter Tryd.func73, Tryd.ntmps73
  go_wp2_with (at_builtin; refine wpList_append_all _ rfl _ _ rfl w.heap.size rfl (Blk.new _ _ _) B xs _ rfl (HI.out.below ((Below.refl _ _).alloc (Nat.le_refl _) _)) hl ?_; intro v2 w2 i2 b2)
  go_ret
  exact ⟨⟨_, rfl, i2⟩, ((Below.refl _ _).alloc (Nat.le_refl _) _).trans b2⟩
/-- Block g holds n numbers. -/
structure IYt (w : World) (b n : Nat) (f : Nat → Int) : Prop where
  lt : b < w.heap.size
  cell : ∀ j, j < n → w.cell? ⟨b, j, none⟩ = some (.int .i64 (f j))
  fz : ∀ j, j < n → w.frozen? ⟨b, j, none⟩ = false
theorem IYt.put {w : World} {b n : Nat} {f g : Nat → Int} (h : IYt w b n f) (i : Nat) (x : Int) (hi : i < n) (hg : ∀ j, j < n → g j = if j = i then x else f j) : IYt (w.setCell ⟨b, i, none⟩ (.int .i64 x)) b n g := by
  refine ⟨by simpa [World.setCell] using h.lt, fun j hj => ?_, fun j hj => by rw [World.frozen?_setCell]; exact h.fz j hj⟩
  rw [hg j hj]
  by_cases e : j = i
  · subst e
    rw [if_pos rfl]; exact World.cell?_setCell_same (h := h.cell j hj) ..
  · rw [if_neg e]
    exact (World.cell?_setCell_other (h := fun h2 => e (by cases h2; rfl)) ..).trans (h.cell j hj)
theorem IYt.same {w : World} {b n : Nat} {f g : Nat → Int} (h : IYt w b n f) (e : ∀ j, j < n → f j = g j) : IYt w b n g := ⟨h.lt, fun j hj => by rw [← e j hj]; exact h.cell j hj, h.fz⟩
theorem IYt.drewN {w : World} {b n : Nat} {f : Nat → Int} (h : IYt w b n f) (k : Nat) : IYt (w.drewN k) b n f := ⟨h.lt, h.cell, h.fz⟩
theorem bel_set {B g i : Nat} {w w' : World} {v : Value} (h : Below B w w') (hB : B ≤ g) : Below B w (w'.setCell ⟨g, i, none⟩ v) :=
  ⟨h.os, h.tape, h.output, by simpa [World.setCell] using h.size, fun k hk => (Below.heap_setCell w' ⟨g, i, none⟩ v k (fun e => by have : k = g := e; omega)).trans (h.block k hk)⟩
theorem rvp_full {f : Nat → Int} {n k o i m : Nat} (hk : k + 1 < n) (hi : i = k + 1 + m) (h1 : n ≤ k + 1 + m + m + 1) (h2 : m + m ≤ n - (k + 1) + 1) (j : Nat) (hj : j < n) : rvp (xch f k o) (k + 1) (n - 1) m j = nxo f n k o j := by
  unfold nxo rvp
  by_cases e : j ≤ k
  · rw [if_pos e, if_neg (by omega)]
  · rw [if_neg e, if_pos hj]
    by_cases c : (k + 1 ≤ j ∧ j < k + 1 + m) ∨ (n - 1 < j + m ∧ j ≤ n - 1)
    · rw [if_pos c]; congr 1; omega
    · rw [if_neg c]; congr 1; omega
/-- What the model answers. -/
def LtE (n : Nat) (f h : Nat → Int) (e : Ending) (w : World) : Prop :=
  (∃ k o g c, IsPl h n k ∧ IsOt h n k o ∧ e = .returned (.tuple #[.slice (some ⟨g, 0, none⟩) n c, .bool true]) ∧ IYt w g n (nxo f n k o)) ∨ (NoPl h n ∧ e = .returned (.tuple #[.slice none 0 0, .bool false]))
set_option maxHeartbeats 1000000 in
theorem leOf_any (g n c : Nat) (f : Nat → Int) (w : World) (hn : n ≤ 17) (hb : ∀ j, 0 ≤ f j ∧ f j ≤ 9) (h : IYt w g n f) :
    Calls Tryd.prog 51 #[.slice (some ⟨g, 0, none⟩) n c] w fun e w' => e = .returned (.int .i64 (nf f n)) ∧ w = w' := by
  have HI := Lib.hid h
  have HB := Lib.hid hb
  clear h hb
  go_enter Tryd.func51, Tryd.ntmps51
  go_wp2
  go_loop [3, 8] (fun t i => ∃ (k : Nat) (S : Int), k ≤ n ∧ i = .int .i64 k ∧ t = .int .i64 S ∧ Hid (S = nf f k)) (fun _ i => n - (intOf i).toNat)
  case atStart => exact ⟨0, 0, Nat.zero_le _, rfl, rfl, rfl⟩
  case round =>
    obtain ⟨k, S, hk, rfl, rfl, HS⟩ := hrel
    have hS := nf_bd HB.out k
    rw [← HS.out] at hS
    have hp : (10 : Nat) ^ k ≤ 10 ^ 17 := Nat.pow_le_pow_right (by omega) (by omega)
    have hS0 := hS.1
    have hS1 : S ≤ 99999999999999999 := by have := hS.2; omega
    clear hS hp
    by_cases hlt : k < n
    · have c0 := HI.out.cell k hlt
      have hx := HB.out k
      obtain ⟨x, hxe⟩ : ∃ x, f k = x := ⟨_, rfl⟩
      rw [hxe] at c0 hx
      obtain ⟨hx0, hx1⟩ := hx
      have HS' : Hid (10 * S + x = nf f (k + 1)) := by show _ = _; rw [nf, ← HS.out, hxe]; omega
      clear hxe
      go_wp2
      go_round
      case rel => exact ⟨k + 1, _, by omega, by go_num, rfl, HS'⟩
      case measure => simp [intOf]; omega
    · have HR : Hid (S = nf f n) := by show _ = _; rw [HS.out, show k = n by omega]
      go_wp2
      go_ret
      exact ⟨ret_int HR.out, rfl⟩
set_option maxHeartbeats 4000000 in
theorem leTurn_t (B n : Nat) (f : Nat → Int) (xs : List Int) (v : Value) (w : World) (hl : xs.length = n) (hn1 : 1 ≤ n) (hn2 : n ≤ 100) (hf : ∀ j, j < n → xs.getD j 0 = f j) (hb : ∀ j, j < n → 0 ≤ f j ∧ f j ≤ 9) (hI : Ints B xs v w) :
    Calls Tryd.prog 49 #[v, .bool true] w fun e w' => LtE n f f e w' ∧ Below w.heap.size w w' := by
  have HO := Lib.hid (own_any B xs v w (by omega) hI)
  have HBB := Lib.hid hb
  have HF := Lib.hid hf
  clear hb hf hI
  go_enter Tryd.func49, Tryd.ntmps49
  go_wp2_with (go_at_call 73; refine HO.out.mono ?_; rintro e w1 ⟨⟨u, rfl, hi⟩, b1⟩; rcases hi.form with ⟨ao, cap', rfl, he⟩ | ⟨g, cap, rfl, hgB, hg, hc, hfz⟩)
  · omega
  · have HB0 : Hid (IYt w1 g n f) := ⟨hg, fun j hj => by rw [← HF.out j hj]; exact hc j (by omega), fun j _ => hfz j⟩
    have HW0 := Lib.hid b1
    try rw [hl]
    obtain ⟨W, hW⟩ : ∃ W, w1 = W := ⟨_, rfl⟩
    subst hW
    clear hi hc hfz HF HO hg
    go_wp2
    go_loopw [7] (fun pv wr => ∃ (p : Int) (q : Nat), pv = .int .i64 p ∧ -1 ≤ p ∧ p ≤ (n : Int) - 2 ∧ Hid (∀ j : Nat, p < (j : Int) → j + 1 < n → f (j + 1) ≤ f j) ∧ wr = w1.drewN q) (fun pv _ => (intOf pv + 1).toNat)
    case atStart => exact ⟨(n : Int) - 2, 0, rfl, by omega, by omega, fun j h1 h2 => by omega, rfl⟩
    case round =>
      obtain ⟨p, q, rfl, hp0, hp1, HN, rfl⟩ := hrel
      by_cases hpn : p < 0
      · have hpF : ((0 : Int) ≤ p) = False := eq_false (by omega)
        have HR : Hid (NoPl f n) := fun j hj => HN.out j (by omega) hj
        clear HN
        go_wp2
        go_ret2
        exact ⟨.inr ⟨HR.out, rfl⟩, below_drewN HW0.out _⟩
      · obtain ⟨k, hk⟩ : ∃ k : Nat, p = (k : Int) := ⟨p.toNat, by omega⟩
        subst hk
        have hpT : ((0 : Int) ≤ (k : Int)) = True := eq_true (by omega)
        have hkn : k + 1 < n := by omega
        have c1 := HB0.out.cell k (by omega)
        have hx := HBB.out k (by omega)
        have hy := HBB.out (k + 1) hkn
        obtain ⟨k1, hk1⟩ : ∃ k1, k + 1 = k1 := ⟨_, rfl⟩
        have HKK := Lib.hid hk1
        have hkk : (k : Int) + 1 = (k1 : Int) := by omega
        have f1 : IntKind.i64.wrap ((k : Int) + 1) = (k1 : Int) := by rw [IntWalk.i64_in] <;> omega
        have f2 : IntKind.i64.wrap (k1 : Int) = (k1 : Int) := by rw [IntWalk.i64_in] <;> omega
        have c2 := HB0.out.cell k1 (by omega)
        have hkI : (k : Int) < (n : Int) := by omega
        have hk1n : k1 < n := by omega
        have hk1I : (k1 : Int) < (n : Int) := by omega
        rw [hk1] at hy
        obtain ⟨x, hxe⟩ : ∃ x, f k = x := ⟨_, rfl⟩
        obtain ⟨y, hye⟩ : ∃ y, f k1 = y := ⟨_, rfl⟩
        rw [hxe] at c1 hx
        rw [hye] at c2 hy
        have HX := Lib.hid hxe
        have HY := Lib.hid hye
        by_cases hxy : y ≤ x
        · have hT : (y ≤ x) = True := eq_true hxy
          have HN' : Hid (∀ j : Nat, (k : Int) - 1 < (j : Int) → j + 1 < n → f (j + 1) ≤ f j) := fun j h1 h2 => by
            by_cases e : j = k
            · subst e; rw [hk1]; rw [hye, hxe]; exact hxy
            · exact HN.out j (by omega) h2
          clear hxe hye hk1 HN
          go_wp2
          go_quiet (fail)
          go_wp2
          go_roundw
          case rel => exact ⟨(k : Int) - 1, q + nq, rfl, by omega, by omega, HN', rfl⟩
          case measure => simp [intOf]
        · have hF : (y ≤ x) = False := eq_false hxy
          have HPL : Hid (IsPl f n k) := ⟨hkn, by rw [hk1]; rw [hye, hxe]; omega, fun j h1 h2 => HN.out j (by omega) h2⟩
          clear hxe hye hk1 HN hxy
          go_wp2
          go_quiet (fail)
          go_wp2
          obtain ⟨q1, hq1⟩ : ∃ q1, q + nq = q1 := ⟨_, rfl⟩
          try rw [hq1]
          clear hq1 hp0 hp1
          go_loopw [8] (fun pv wr => ∃ (p : Int) (q : Nat), pv = .int .i64 p ∧ (k : Int) < p ∧ p ≤ (n : Int) - 1 ∧ Hid (∀ j : Nat, p < (j : Int) → j < n → f j ≤ x) ∧ wr = w1.drewN q) (fun pv _ => (intOf pv).toNat)
          case atStart => exact ⟨(n : Int) - 1, q1, rfl, by omega, by omega, fun j h1 h2 => by omega, rfl⟩
          case round =>
            obtain ⟨p, q2, rfl, hp0, hp1, HM, rfl⟩ := hrel
            obtain ⟨o, ho⟩ : ∃ o : Nat, p = (o : Int) := ⟨p.toNat, by omega⟩
            subst ho
            have hon : o < n := by omega
            have honI : (o : Int) < (n : Int) := by omega
            have c3 := HB0.out.cell o hon
            have hz := HBB.out o hon
            obtain ⟨z, hze⟩ : ∃ z, f o = z := ⟨_, rfl⟩
            rw [hze] at c3 hz
            have HZ := Lib.hid hze
            have h64 : IntKind.i64.wrap (o : Int) = (o : Int) := by rw [IntWalk.i64_in] <;> omega
            by_cases hzx : z ≤ x
            · have hT : (z ≤ x) = True := eq_true hzx
              have hok : (k : Int) + 1 < (o : Int) := by
                have : o ≠ k1 := fun e => by
                  have h1 := HY.out; have h2 := HZ.out
                  rw [e, h1] at h2
                  rw [h2] at hF; exact (of_eq_false hF) hzx
                have := HKK.out; omega
              have HM' : Hid (∀ j : Nat, (o : Int) - 1 < (j : Int) → j < n → f j ≤ x) := fun j h1 h2 => by
                by_cases e : j = o
                · subst e; rw [HZ.out]; exact hzx
                · exact HM.out j (by omega) h2
              clear hze HM
              go_wp2
              go_quiet (fail)
              go_wp2
              go_roundw
              case rel => exact ⟨(o : Int) - 1, q2 + nq, rfl, by omega, by omega, HM', rfl⟩
              case measure => simp [intOf]; omega
            · have hT : (z ≤ x) = False := eq_false hzx
              have HOT : Hid (IsOt f n k o) := ⟨by omega, hon, by rw [HX.out, hze]; omega, fun j h1 h2 => by have := HM.out j (by omega) h2; have := HX.out;  omega⟩
              clear hze HM hzx
              go_wp2
              go_quiet (fail)
              have c1' : ((w1.drewN q2).drewN nq).cell? ⟨g, k, none⟩ = some (.int .i64 x) := c1
              have c3' : ((w1.drewN q2).drewN nq).cell? ⟨g, o, none⟩ = some (.int .i64 z) := c3
              have HBn := Lib.hid ((HB0.out.drewN q2).drewN nq)
              have HWn := Lib.hid (below_drewN (below_drewN HW0.out q2) nq)
              obtain ⟨wo, hwo⟩ : ∃ wo, (w1.drewN q2).drewN nq = wo := ⟨_, rfl⟩
              rw [hwo] at c1' c3' HBn HWn
              rw [hwo]
              clear hwo c1 c3 HB0 HW0 hF hT
              have hkn0 : k < n := by omega
              have z1 := HBn.out.fz k hkn0
              have z2 := HBn.out.fz o hon
              have hko : (k : Int) < (o : Int) := hp0
              have HS2 : Hid (IYt ((wo.setCell ⟨g, k, none⟩ (.int .i64 z)).setCell ⟨g, o, none⟩ (.int .i64 x)) g n (xch f k o)) := by
                refine IYt.put (IYt.put (g := fun j => if j = k then z else f j) HBn.out k z hkn0 (fun j _ => rfl)) o x hon (fun j _ => ?_)
                unfold xch
                by_cases e1 : j = k
                · subst e1; rw [if_pos rfl, if_neg (by omega), if_pos rfl]; exact HZ.out
                · rw [if_neg e1]
                  by_cases e2 : j = o
                  · rw [if_pos e2, if_pos e2]; exact HX.out
                  · rw [if_neg e2, if_neg e2, if_neg e1]
              have HGR : Hid (Below w.heap.size w ((wo.setCell ⟨g, k, none⟩ (.int .i64 z)).setCell ⟨g, o, none⟩ (.int .i64 x))) := bel_set (bel_set HWn.out hgB) hgB
              have hko2 : (⟨g, k, none⟩ : Addr) ≠ ⟨g, o, none⟩ := fun h => by have := congrArg Addr.off h; simp at this; omega
              go_wp2
              obtain ⟨F, hF0⟩ : ∃ F, xch f k o = F := ⟨_, rfl⟩
              have HFF := Lib.hid hF0
              rw [hF0] at HS2
              clear hF0
              go_loopw [10, 11] (fun iv jv wr => ∃ (i j : Nat), iv = .int .i64 i ∧ jv = .int .i64 j ∧ i ≤ n ∧ j < n ∧ k1 ≤ i ∧ Hid (i + j = k1 + (n - 1) ∧ i ≤ j + 2) ∧ Hid (IYt wr g n (rvp F k1 (n - 1) (i - k1))) ∧ Hid (Below w.heap.size w wr)) (fun iv _ _ => n - (intOf iv).toNat)
              case atStart => exact ⟨k1, n - 1, rfl, val_int (by omega), by omega, by omega, by omega, ⟨by omega, by omega⟩, HS2.out.same (fun j _ => by rw [Nat.sub_self, rvp_0]), HGR.out⟩
              case round =>
                obtain ⟨i, j, rfl, rfl, hin, hjn, hki, HJ, HR1, HB1⟩ := hrel
                obtain ⟨ws, rfl⟩ : ∃ ws : World, ws = wr := ⟨_, rfl⟩
                by_cases hij : (i : Int) < (j : Int)
                · have hin2 : i < n := by omega
                  have d1 := HR1.out.cell i hin2
                  have d2 := HR1.out.cell j hjn
                  have y1 := HR1.out.fz i hin2
                  have y2 := HR1.out.fz j hjn
                  have hinI : (i : Int) < (n : Int) := by omega
                  have hjnI : (j : Int) < (n : Int) := by omega
                  obtain ⟨P, hP⟩ : ∃ P, rvp F k1 (n - 1) (i - k1) i = P := ⟨_, rfl⟩
                  obtain ⟨Q, hQ⟩ : ∃ Q, rvp F k1 (n - 1) (i - k1) j = Q := ⟨_, rfl⟩
                  have HR2 : Hid (IYt ((ws.setCell ⟨g, i, none⟩ (.int .i64 Q)).setCell ⟨g, j, none⟩ (.int .i64 P)) g n (rvp F k1 (n - 1) (i + 1 - k1))) := by
                    have h1 := HJ.out.1
                    refine IYt.put (IYt.put (g := fun t => if t = i then Q else rvp F k1 (n - 1) (i - k1) t) HR1.out i Q hin2 (fun _ _ => rfl)) j P hjn (fun t _ => ?_)
                    rw [show i + 1 - k1 = (i - k1) + 1 by omega, rvp_up (by omega), show n - 1 - (i - k1) = j by omega, show k1 + (i - k1) = i by omega, hP, hQ]
                  have HB2 : Hid (Below w.heap.size w ((ws.setCell ⟨g, i, none⟩ (.int .i64 Q)).setCell ⟨g, j, none⟩ (.int .i64 P))) := bel_set (bel_set HB1.out hgB) hgB
                  have hij2 : (⟨g, i, none⟩ : Addr) ≠ ⟨g, j, none⟩ := fun h => by have := congrArg Addr.off h; simp at this; omega
                  rw [hP] at d1
                  rw [hQ] at d2
                  clear hP hQ
                  go_wp2
                  go_roundw
                  case rel => exact ⟨i + 1, j - 1, by go_num, val_int (by omega), by omega, by omega, by omega, ⟨by have := HJ.out; omega, by omega⟩, HR2.out, HB2.out⟩
                  case measure => simp [intOf]; omega
                · have HE : Hid (IYt ws g n (nxo f n k o)) := HR1.out.same (fun t ht => by
                    have h1 := HJ.out
                    have h2 := HKK.out
                    have := rvp_full (f := f) (o := o) (m := i - k1) (show k + 1 < n by omega) (show i = k + 1 + (i - k1) by omega) (by omega) (by omega) t ht
                    rw [HFF.out, h2] at this
                    exact this)
                  go_wp2
                  go_ret2
                  exact ⟨.inl ⟨k, o, g, cap, HPL.out, HOT.out, rfl, HE.out⟩, HB1.out⟩
set_option maxHeartbeats 4000000 in
theorem leTurn_f (B n : Nat) (f : Nat → Int) (xs : List Int) (v : Value) (w : World) (hl : xs.length = n) (hn1 : 1 ≤ n) (hn2 : n ≤ 100) (hf : ∀ j, j < n → xs.getD j 0 = f j) (hb : ∀ j, j < n → 0 ≤ f j ∧ f j ≤ 9) (hI : Ints B xs v w) :
    Calls Tryd.prog 49 #[v, .bool false] w fun e w' => LtE n f (fun i => 9 - f i) e w' ∧ Below w.heap.size w w' := by
  have HO := Lib.hid (own_any B xs v w (by omega) hI)
  have HBB := Lib.hid hb
  have HF := Lib.hid hf
  clear hb hf hI
  go_enter Tryd.func49, Tryd.ntmps49
  go_wp2_with (go_at_call 73; refine HO.out.mono ?_; rintro e w1 ⟨⟨u, rfl, hi⟩, b1⟩; rcases hi.form with ⟨ao, cap', rfl, he⟩ | ⟨g, cap, rfl, hgB, hg, hc, hfz⟩)
  · omega
  · have HB0 : Hid (IYt w1 g n f) := ⟨hg, fun j hj => by rw [← HF.out j hj]; exact hc j (by omega), fun j _ => hfz j⟩
    have HW0 := Lib.hid b1
    try rw [hl]
    obtain ⟨W, hW⟩ : ∃ W, w1 = W := ⟨_, rfl⟩
    subst hW
    clear hi hc hfz HF HO hg
    go_wp2
    go_loopw [7] (fun pv wr => ∃ (p : Int) (q : Nat), pv = .int .i64 p ∧ -1 ≤ p ∧ p ≤ (n : Int) - 2 ∧ Hid (∀ j : Nat, p < (j : Int) → j + 1 < n → (fun i => 9 - f i) (j + 1) ≤ (fun i => 9 - f i) j) ∧ wr = w1.drewN q) (fun pv _ => (intOf pv + 1).toNat)
    case atStart => exact ⟨(n : Int) - 2, 0, rfl, by omega, by omega, fun j h1 h2 => by omega, rfl⟩
    case round =>
      obtain ⟨p, q, rfl, hp0, hp1, HN, rfl⟩ := hrel
      by_cases hpn : p < 0
      · have hpF : ((0 : Int) ≤ p) = False := eq_false (by omega)
        have HR : Hid (NoPl (fun i => 9 - f i) n) := fun j hj => HN.out j (by omega) hj
        clear HN
        go_wp2
        go_ret2
        exact ⟨.inr ⟨HR.out, rfl⟩, below_drewN HW0.out _⟩
      · obtain ⟨k, hk⟩ : ∃ k : Nat, p = (k : Int) := ⟨p.toNat, by omega⟩
        subst hk
        have hpT : ((0 : Int) ≤ (k : Int)) = True := eq_true (by omega)
        have hkn : k + 1 < n := by omega
        have c1 := HB0.out.cell k (by omega)
        have hx := HBB.out k (by omega)
        have hy := HBB.out (k + 1) hkn
        obtain ⟨k1, hk1⟩ : ∃ k1, k + 1 = k1 := ⟨_, rfl⟩
        have HKK := Lib.hid hk1
        have hkk : (k : Int) + 1 = (k1 : Int) := by omega
        have f1 : IntKind.i64.wrap ((k : Int) + 1) = (k1 : Int) := by rw [IntWalk.i64_in] <;> omega
        have f2 : IntKind.i64.wrap (k1 : Int) = (k1 : Int) := by rw [IntWalk.i64_in] <;> omega
        have c2 := HB0.out.cell k1 (by omega)
        have hkI : (k : Int) < (n : Int) := by omega
        have hk1n : k1 < n := by omega
        have hk1I : (k1 : Int) < (n : Int) := by omega
        rw [hk1] at hy
        obtain ⟨x, hxe⟩ : ∃ x, f k = x := ⟨_, rfl⟩
        obtain ⟨y, hye⟩ : ∃ y, f k1 = y := ⟨_, rfl⟩
        rw [hxe] at c1 hx
        rw [hye] at c2 hy
        have HX := Lib.hid hxe
        have HY := Lib.hid hye
        by_cases hxy : x ≤ y
        · have hT : (x ≤ y) = True := eq_true hxy
          have HN' : Hid (∀ j : Nat, (k : Int) - 1 < (j : Int) → j + 1 < n → (fun i => 9 - f i) (j + 1) ≤ (fun i => 9 - f i) j) := fun j h1 h2 => by
            by_cases e : j = k
            · subst e; rw [hk1]; show 9 - f k1 ≤ 9 - f j; rw [hye, hxe]; omega
            · exact HN.out j (by omega) h2
          clear hxe hye hk1 HN
          go_wp2
          go_quiet (fail)
          go_wp2
          go_roundw
          case rel => exact ⟨(k : Int) - 1, q + nq, rfl, by omega, by omega, HN', rfl⟩
          case measure => simp [intOf]
        · have hF : (x ≤ y) = False := eq_false hxy
          have HPL : Hid (IsPl (fun i => 9 - f i) n k) := ⟨hkn, by rw [hk1]; show 9 - f k < 9 - f k1; rw [hye, hxe]; omega, fun j h1 h2 => HN.out j (by omega) h2⟩
          clear hxe hye hk1 HN hxy
          go_wp2
          go_quiet (fail)
          go_wp2
          obtain ⟨q1, hq1⟩ : ∃ q1, q + nq = q1 := ⟨_, rfl⟩
          try rw [hq1]
          clear hq1 hp0 hp1
          go_loopw [8] (fun pv wr => ∃ (p : Int) (q : Nat), pv = .int .i64 p ∧ (k : Int) < p ∧ p ≤ (n : Int) - 1 ∧ Hid (∀ j : Nat, p < (j : Int) → j < n → x ≤ f j) ∧ wr = w1.drewN q) (fun pv _ => (intOf pv).toNat)
          case atStart => exact ⟨(n : Int) - 1, q1, rfl, by omega, by omega, fun j h1 h2 => by omega, rfl⟩
          case round =>
            obtain ⟨p, q2, rfl, hp0, hp1, HM, rfl⟩ := hrel
            obtain ⟨o, ho⟩ : ∃ o : Nat, p = (o : Int) := ⟨p.toNat, by omega⟩
            subst ho
            have hon : o < n := by omega
            have honI : (o : Int) < (n : Int) := by omega
            have c3 := HB0.out.cell o hon
            have hz := HBB.out o hon
            obtain ⟨z, hze⟩ : ∃ z, f o = z := ⟨_, rfl⟩
            rw [hze] at c3 hz
            have HZ := Lib.hid hze
            have h64 : IntKind.i64.wrap (o : Int) = (o : Int) := by rw [IntWalk.i64_in] <;> omega
            by_cases hzx : x ≤ z
            · have hT : (x ≤ z) = True := eq_true hzx
              have hok : (k : Int) + 1 < (o : Int) := by
                have : o ≠ k1 := fun e => by
                  have h1 := HY.out; have h2 := HZ.out
                  rw [e, h1] at h2
                  rw [h2] at hF; exact (of_eq_false hF) hzx
                have := HKK.out; omega
              have HM' : Hid (∀ j : Nat, (o : Int) - 1 < (j : Int) → j < n → x ≤ f j) := fun j h1 h2 => by
                by_cases e : j = o
                · subst e; rw [HZ.out]; exact hzx
                · exact HM.out j (by omega) h2
              clear hze HM
              go_wp2
              go_quiet (fail)
              go_wp2
              go_roundw
              case rel => exact ⟨(o : Int) - 1, q2 + nq, rfl, by omega, by omega, HM', rfl⟩
              case measure => simp [intOf]; omega
            · have hT : (x ≤ z) = False := eq_false hzx
              have HOT : Hid (IsOt (fun i => 9 - f i) n k o) := ⟨by omega, hon, by show 9 - f k < 9 - f o; rw [HX.out, hze]; omega, fun j h1 h2 => by have := HM.out j (by omega) h2; have := HX.out; show 9 - f j ≤ 9 - f k; omega⟩
              clear hze HM hzx
              go_wp2
              go_quiet (fail)
              have c1' : ((w1.drewN q2).drewN nq).cell? ⟨g, k, none⟩ = some (.int .i64 x) := c1
              have c3' : ((w1.drewN q2).drewN nq).cell? ⟨g, o, none⟩ = some (.int .i64 z) := c3
              have HBn := Lib.hid ((HB0.out.drewN q2).drewN nq)
              have HWn := Lib.hid (below_drewN (below_drewN HW0.out q2) nq)
              obtain ⟨wo, hwo⟩ : ∃ wo, (w1.drewN q2).drewN nq = wo := ⟨_, rfl⟩
              rw [hwo] at c1' c3' HBn HWn
              rw [hwo]
              clear hwo c1 c3 HB0 HW0 hF hT
              have hkn0 : k < n := by omega
              have z1 := HBn.out.fz k hkn0
              have z2 := HBn.out.fz o hon
              have hko : (k : Int) < (o : Int) := hp0
              have HS2 : Hid (IYt ((wo.setCell ⟨g, k, none⟩ (.int .i64 z)).setCell ⟨g, o, none⟩ (.int .i64 x)) g n (xch f k o)) := by
                refine IYt.put (IYt.put (g := fun j => if j = k then z else f j) HBn.out k z hkn0 (fun j _ => rfl)) o x hon (fun j _ => ?_)
                unfold xch
                by_cases e1 : j = k
                · subst e1; rw [if_pos rfl, if_neg (by omega), if_pos rfl]; exact HZ.out
                · rw [if_neg e1]
                  by_cases e2 : j = o
                  · rw [if_pos e2, if_pos e2]; exact HX.out
                  · rw [if_neg e2, if_neg e2, if_neg e1]
              have HGR : Hid (Below w.heap.size w ((wo.setCell ⟨g, k, none⟩ (.int .i64 z)).setCell ⟨g, o, none⟩ (.int .i64 x))) := bel_set (bel_set HWn.out hgB) hgB
              have hko2 : (⟨g, k, none⟩ : Addr) ≠ ⟨g, o, none⟩ := fun h => by have := congrArg Addr.off h; simp at this; omega
              go_wp2
              obtain ⟨F, hF0⟩ : ∃ F, xch f k o = F := ⟨_, rfl⟩
              have HFF := Lib.hid hF0
              rw [hF0] at HS2
              clear hF0
              go_loopw [10, 11] (fun iv jv wr => ∃ (i j : Nat), iv = .int .i64 i ∧ jv = .int .i64 j ∧ i ≤ n ∧ j < n ∧ k1 ≤ i ∧ Hid (i + j = k1 + (n - 1) ∧ i ≤ j + 2) ∧ Hid (IYt wr g n (rvp F k1 (n - 1) (i - k1))) ∧ Hid (Below w.heap.size w wr)) (fun iv _ _ => n - (intOf iv).toNat)
              case atStart => exact ⟨k1, n - 1, rfl, val_int (by omega), by omega, by omega, by omega, ⟨by omega, by omega⟩, HS2.out.same (fun j _ => by rw [Nat.sub_self, rvp_0]), HGR.out⟩
              case round =>
                obtain ⟨i, j, rfl, rfl, hin, hjn, hki, HJ, HR1, HB1⟩ := hrel
                obtain ⟨ws, rfl⟩ : ∃ ws : World, ws = wr := ⟨_, rfl⟩
                by_cases hij : (i : Int) < (j : Int)
                · have hin2 : i < n := by omega
                  have d1 := HR1.out.cell i hin2
                  have d2 := HR1.out.cell j hjn
                  have y1 := HR1.out.fz i hin2
                  have y2 := HR1.out.fz j hjn
                  have hinI : (i : Int) < (n : Int) := by omega
                  have hjnI : (j : Int) < (n : Int) := by omega
                  obtain ⟨P, hP⟩ : ∃ P, rvp F k1 (n - 1) (i - k1) i = P := ⟨_, rfl⟩
                  obtain ⟨Q, hQ⟩ : ∃ Q, rvp F k1 (n - 1) (i - k1) j = Q := ⟨_, rfl⟩
                  have HR2 : Hid (IYt ((ws.setCell ⟨g, i, none⟩ (.int .i64 Q)).setCell ⟨g, j, none⟩ (.int .i64 P)) g n (rvp F k1 (n - 1) (i + 1 - k1))) := by
                    have h1 := HJ.out.1
                    refine IYt.put (IYt.put (g := fun t => if t = i then Q else rvp F k1 (n - 1) (i - k1) t) HR1.out i Q hin2 (fun _ _ => rfl)) j P hjn (fun t _ => ?_)
                    rw [show i + 1 - k1 = (i - k1) + 1 by omega, rvp_up (by omega), show n - 1 - (i - k1) = j by omega, show k1 + (i - k1) = i by omega, hP, hQ]
                  have HB2 : Hid (Below w.heap.size w ((ws.setCell ⟨g, i, none⟩ (.int .i64 Q)).setCell ⟨g, j, none⟩ (.int .i64 P))) := bel_set (bel_set HB1.out hgB) hgB
                  have hij2 : (⟨g, i, none⟩ : Addr) ≠ ⟨g, j, none⟩ := fun h => by have := congrArg Addr.off h; simp at this; omega
                  rw [hP] at d1
                  rw [hQ] at d2
                  clear hP hQ
                  go_wp2
                  go_roundw
                  case rel => exact ⟨i + 1, j - 1, by go_num, val_int (by omega), by omega, by omega, by omega, ⟨by have := HJ.out; omega, by omega⟩, HR2.out, HB2.out⟩
                  case measure => simp [intOf]; omega
                · have HE : Hid (IYt ws g n (nxo f n k o)) := HR1.out.same (fun t ht => by
                    have h1 := HJ.out
                    have h2 := HKK.out
                    have := rvp_full (f := f) (o := o) (m := i - k1) (show k + 1 < n by omega) (show i = k + 1 + (i - k1) by omega) (by omega) (by omega) t ht
                    rw [HFF.out, h2] at this
                    exact this)
                  go_wp2
                  go_ret2
                  exact ⟨.inl ⟨k, o, g, cap, HPL.out, HOT.out, rfl, HE.out⟩, HB1.out⟩
end Go.Proofs.YtghjpanabphbpaaDoor
