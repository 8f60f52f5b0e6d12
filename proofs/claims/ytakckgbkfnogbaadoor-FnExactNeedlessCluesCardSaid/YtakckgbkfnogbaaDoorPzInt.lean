/-
  Needless clues, and what clues leave: both sides.
-/
import Derived.Test.YtakckgbkfnogbaaDoorPzPub
import Derived.Test.YtakckgbkfnogbaaDoorPzWo
import Derived.Test.YtakckgbkfnogbaaDoorSlice
namespace Go.Proofs.YtakckgbkfnogbaaDoor
open Go.RowKit Go.Deep
set_option maxRecDepth 100000

theorem append_int1 (w : World) {ops : Array Oper} {rest : List Oper} {o : Oper} {a : Act} {Q : Exit → Act → World → Prop} (hgd : o.guard = none) (s x : Operand)
    (ho : o.op = .call { callee := .builtin .append, args := #[s, x], argTypes := #[50, 50] })
    (B : Nat) (ts : List Int) (v : Value) (hs : a.eval s = v) (hown : Ints B ts v w) (k : Nat) (z : Int) (hx : a.eval x = .slice (some ⟨k, 0, none⟩) 1 1) (hk : w.cell? ⟨k, 0, none⟩ = some (.int .i64 z))
    (hlen : ts.length ≤ 100000) (hB : B ≤ w.heap.size)
    (h : ∀ v' w', Ints B (ts ++ [z]) v' w' → Below B w w' → wpList Tryd.prog ops Q rest (a.put o.dst v') w') :
    wpList Tryd.prog ops Q (o :: rest) a w := by
  obtain ⟨i0, hi, hz0, hz1, hz2⟩ := info_parts (show (Tryd.prog.info? 3).map (fun i => (i.zero, i.size, i.bytes)) = some (some (.int .i64 0), 1, 8) by kernel_rfl)
  refine wpList_append_own_at _ hgd s x 50 ho B 3 i0 (.int .i64 0) 1 8 Tryd.underlying50 hi hz0 hz1 hz2 rfl (by decide) v ts.length (ts.map (Value.int .i64)) hs hown ⟨k, 0, none⟩ 1 1 [.int .i64 z] hx (by simp) ?_ ?_ ?_ ?_ hB ?_
  · intro j y hj
    match j, hj with
    | 0, hj => simp at hj; subst hj; simpa [Addr.add] using hk
  · intro y hy; simp at hy; subst hy; rfl
  · unfold maxLen; omega
  · omega
  · intro v' w' h1 hg _ _
    exact h v' w' (by unfold Ints; simpa using h1) ((Below.refl B w).grown hg hB (fun q hq => (World.ownsRow.lt hown q hq).1))
theorem Ints.nil0 (B : Nat) (w : World) : Ints B [] (.slice none 0 0) w := World.ownsRow_nil _ _ _ _
def ndP (cs : List Cl) : List Int := if pzB cs then ndl cs cs.length else []
theorem ndP_yes {cs : List Cl} (h : pzB cs = true) : ndP cs = ndl cs cs.length := by unfold ndP; rw [if_pos h]
theorem ndP_no {cs : List Cl} (h : pzB cs = false) : ndP cs = [] := by unfold ndP; rw [if_neg (by rw [h]; simp)]
theorem ndP_len (cs : List Cl) : (ndP cs).length ≤ 2000000 := by
  cases h : pzB cs with
  | false => rw [ndP_no h]; simp
  | true => rw [ndP_yes h]; have := ndl_len cs cs.length; have := pz_len h; omega
def lfP (cs : List Cl) : List Int := if pzB cs then lft cs (cs.length + 1) else []
theorem lfP_yes {cs : List Cl} (h : pzB cs = true) : lfP cs = lft cs (cs.length + 1) := by unfold lfP; rw [if_pos h]
theorem lfP_no {cs : List Cl} (h : pzB cs = false) : lfP cs = [] := by unfold lfP; rw [if_neg (by rw [h]; simp)]
theorem lfP_len (cs : List Cl) : (lfP cs).length ≤ 2000000 := by
  cases h : pzB cs with
  | false => rw [lfP_no h]; simp
  | true => rw [lfP_yes h, lft_len]; have := pz_len h; omega
theorem AllC.wo {cs : List Cl} (h : AllC cs) (k : Nat) : AllC (wo cs k) := h.sub (wo_mem cs k)
theorem AllC.take {cs : List Cl} (h : AllC cs) (k : Nat) : AllC (cs.take k) := h.sub (fun _ hc => List.mem_of_mem_take hc)
theorem count_x (cs : List Cl) (v : Value) (x : Nat) (w : World) (hn : cs.length ≤ 1000) (hall : AllC cs) (h : RdC cs v w) (hx : (sol cs).length = x) :
    Calls Tryd.prog 55 #[v] w fun e w' => e = .returned (.int .i64 (x : Int)) ∧ Below w.heap.size w w' := by subst hx; exact count_any cs v w hn hall h
set_option maxHeartbeats 8000000 in
theorem iNd_any (cs : List Cl) (ad : Addr) (n cap : Nat) (w : World) (hn : cs.length ≤ 1048576) (h : RdC cs (.slice (some ad) n cap) w) :
    Calls Tryd.prog 32 #[.agg #[.slice (some ad) n cap]] w fun e w' => (∃ u, e = .returned (.tuple #[u, .bool (pzB cs)]) ∧ Ints w.heap.size (ndP cs) u w') ∧ Below w.heap.size w w' := by
  have HV := Lib.hid h
  have HR := Lib.hid (h.alloc (.cells #[.slice (some ad) n cap] 38))
  have hb : Below w.heap.size w (w.alloc (.cells #[.slice (some ad) n cap] 38)) := (Below.refl _ _).alloc (Nat.le_refl _) _
  have HB := Lib.hid hb
  have HI := Lib.hid (iCnt_any cs _ _ hn HR.out)
  have HL := Lib.hid h.len
  clear h hb
  cases hg : pzB cs with
  | false =>
    have HS := Lib.hid (ndP_no hg)
    rw [hg] at HI
    obtain ⟨q, hq⟩ : ∃ q, q = cntA cs := ⟨_, rfl⟩
    rw [← hq] at HI
    clear hg hq
    go_enter Tryd.func32, Tryd.ntmps32
    go_wp2_with (go_at_call 24; (refine HI.out.mono ?_); rintro e w1 ⟨rfl, b1⟩)
    go_ret2
    exact ⟨⟨_, rfl, by rw [HS.out]; exact Ints.nil0 _ _⟩, chain HB.out b1⟩
  | true =>
    have HS := Lib.hid (ndP_yes hg)
    have HPZ := Lib.hid hg
    have hl6 := pz_len hg
    have hall := AllC.of hg
    have HA := Lib.hid hall
    have hnl := HL.out.1
    rw [hg] at HI
    have hcq : cntA cs = (((sol cs).length : Nat) : Int) := by unfold cntA; rw [solP_yes hg]
    rw [hcq] at HI
    obtain ⟨q, hq⟩ : ∃ q, (sol cs).length = q := ⟨_, rfl⟩
    have HQE := Lib.hid hq
    rw [hq] at HI
    have HW := Lib.hid (fun (k : Nat) (W : World) (hk : k < cs.length) (hr : RdC cs (.slice (some ad) n cap) W) => without_any cs ad n cap k (k : Int) W rfl hk (by omega) hr)
    have HN : Hid (n = cs.length) := hnl
    have hn6 : n ≤ 6 := by omega
    clear hg hall hcq hq hnl hl6 hn
    go_enter Tryd.func32, Tryd.ntmps32
    go_wp2_with (go_at_call 24; (refine HI.out.mono ?_); rintro e w1 ⟨rfl, b1⟩; have e0 := (blk1 (box_at w _ b1)).1; have hz := box_lt w _ b1; have hB1 := chain HB.out b1)
    have B1 := Lib.hid hB1
    have HI0 : Hid (Ints (w.heap.size + 1) (ndl cs 0) (.slice none 0 0) w1) := Ints.nil0 _ _
    have HE0 := Lib.hid e0
    have hz1 : w.heap.size + 1 ≤ w1.heap.size := hz
    clear hB1 b1 e0 hz
    go_loopw [6, 18] (fun u i wr => ∃ k : Nat, k ≤ n ∧ i = .int .i64 k ∧ Hid (Ints (w.heap.size + 1) (ndl cs k) u wr) ∧ Below (w.heap.size + 1) w1 wr) (fun _ i _ => n - (intOf i).toNat)
    case atStart => exact ⟨0, Nat.zero_le _, rfl, HI0, Below.refl _ _⟩
    case round =>
      clear HI0
      obtain ⟨k, hk, rfl, HT, hbl⟩ := hrel
      obtain ⟨wo', rfl⟩ : ∃ wo' : World, wo' = wr := ⟨_, rfl⟩
      have hsz := hbl.size
      have e0 := (hbl.cell (p := ⟨w.heap.size, 0, none⟩) (by simp only; omega)).trans HE0.out
      have hz : w.heap.size < wo'.heap.size := by omega
      have BW : Below w.heap.size w wo' := B1.out.trans (hbl.mono (by omega))
      by_cases hlt : k < n
      · have hkc : k < cs.length := by rw [← HN.out]; exact hlt
        have hkI : (k : Int) < (n : Int) := by omega
        have hwl := wo_len cs k hkc
        have hndl := ndl_len cs k
        have HWK := Lib.hid (HW.out k wo' hkc (HV.out.below BW))
        obtain ⟨x, hx⟩ : ∃ x, (sol (wo cs k)).length = x := ⟨_, rfl⟩
        have HC := Lib.hid (fun (u : Value) (W : World) (hr : RdC (wo cs k) u W) => count_x (wo cs k) u x W (by have := HN.out; omega) (HA.out.wo k) hr hx)
        by_cases hxq : x = q
        · have HE := Lib.hid (ndl_yes (cs := cs) (n := k) (by rw [hx, HQE.out]; exact hxq))
          have hxI : ((x : Int) == (q : Int)) = true := by rw [hxq]; simp
          clear hx hwl hxq
          go_wp2_with (first
            | (go_at_call 56; (refine HWK.out.mono ?_); rintro e w2 ⟨⟨u, rfl, hu⟩, b2⟩; obtain ⟨e1, z1⟩ := keep1' hz e0 b2; have hu2 := hu.rd)
            | (go_at_call 55; (refine (HC.out _ _ hu2).mono ?_); rintro e w3 ⟨rfl, b3⟩; obtain ⟨e2, z2⟩ := keep1' z1 e1 b3)
            | (at_builtin; refine append_int1 _ rfl _ _ rfl (w.heap.size + 1) (ndl cs k) _ rfl (((HT.out.below b2).below b3).below ((Below.refl _ _).alloc (Nat.le_refl _) _)) w3.heap.size (k : Int) rfl (by simp) (by omega) (by have := b2.size; have := b3.size; simp only [World.size_alloc]; omega) ?_; intro v4 w4 u4 b4))
          have hs2 := b2.size
          have B3 := (hbl.trans (b2.mono (by omega))).trans (b3.mono (by omega))
          have B4 := (B3.alloc (by have := B3.size; omega) (.cells #[.int .i64 (k : Int)] 3)).trans b4
          go_roundw
          case rel => exact ⟨k + 1, by omega, by go_num, by show Ints _ _ _ _; rw [HE.out]; exact u4, B4⟩
          case measure => simp [intOf]; omega
        · have HE := Lib.hid (ndl_no (cs := cs) (n := k) (by rw [hx, HQE.out]; exact hxq))
          have hxI : ((x : Int) == (q : Int)) = false := by rw [beq_eq_false_iff_ne]; omega
          clear hx hwl hxq
          go_wp2_with (first
            | (go_at_call 56; (refine HWK.out.mono ?_); rintro e w2 ⟨⟨u, rfl, hu⟩, b2⟩; obtain ⟨e1, z1⟩ := keep1' hz e0 b2; have hu2 := hu.rd)
            | (go_at_call 55; (refine (HC.out _ _ hu2).mono ?_); rintro e w3 ⟨rfl, b3⟩; obtain ⟨e2, z2⟩ := keep1' z1 e1 b3))
          have hs2 := b2.size
          have B3 := (hbl.trans (b2.mono (by omega))).trans (b3.mono (by omega))
          go_roundw
          case rel => exact ⟨k + 1, by omega, by go_num, by show Ints _ _ _ _; rw [HE.out]; exact (HT.out.below b2).below b3, B3⟩
          case measure => simp [intOf]; omega
      · have HF : Hid (ndl cs k = ndP cs) := by show _ = _; rw [HS.out, show k = cs.length by have := HN.out; omega]
        go_wp2
        go_ret2
        exact ⟨⟨_, rfl, by rw [← HF.out]; exact HT.out.mono (by omega)⟩, BW⟩
set_option maxHeartbeats 8000000 in
theorem sNd_any (cs : List Cl) (ad : Addr) (n cap : Nat) (w : World) (hn : cs.length ≤ 1048576) (h : RdC cs (.slice (some ad) n cap) w) :
    Calls Tryd.prog 31 #[.agg #[.slice (some ad) n cap]] w fun e w' => (∃ u, e = .returned (.tuple #[u, .bool (pzB cs)]) ∧ Ints w.heap.size (ndP cs) u w') ∧ Below w.heap.size w w' := by
  have HV := Lib.hid h
  have HR := Lib.hid (h.alloc (.cells #[.slice (some ad) n cap] 38))
  have hb : Below w.heap.size w (w.alloc (.cells #[.slice (some ad) n cap] 38)) := (Below.refl _ _).alloc (Nat.le_refl _) _
  have HB := Lib.hid hb
  have HL := Lib.hid h.len
  clear h hb
  cases hg : pzB cs with
  | false =>
    have HG := Lib.hid hg
    have HS := Lib.hid (ndP_no hg)
    clear hg
    go_enter Tryd.func31, Tryd.ntmps31
    go_wp2_with (go_at_call 45; (with_reducible refine (pzGood_b cs false _ _ hn HR.out HG.out).mono ?_); rintro e w1 ⟨rfl, b1⟩)
    go_ret2
    exact ⟨⟨_, rfl, by rw [HS.out]; exact Ints.nil0 _ _⟩, chain HB.out b1⟩
  | true =>
    have HG := Lib.hid hg
    have HS := Lib.hid (ndP_yes hg)
    have hl6 := pz_len hg
    have hall := AllC.of hg
    have HA := Lib.hid hall
    have hnl := HL.out.1
    obtain ⟨q, hq⟩ : ∃ q, (sol cs).length = q := ⟨_, rfl⟩
    have HQE := Lib.hid hq
    have HAL := Lib.hid (fun W (hr : RdC cs (.slice (some ad) n cap) W) => pzAll_any cs _ W (by omega) hall hr)
    have HW := Lib.hid (fun (k : Nat) (W : World) (hk : k < cs.length) (hr : RdC cs (.slice (some ad) n cap) W) => pzWo_any cs ad n cap k (k : Int) W rfl hk (by omega) hr)
    have HN : Hid (n = cs.length) := hnl
    have hn6 : n ≤ 6 := by omega
    clear hg hall hq hnl hl6
    go_enter Tryd.func31, Tryd.ntmps31
    go_wp2_with (first
      | (go_at_call 45; (with_reducible refine (pzGood_b cs true _ _ hn HR.out HG.out).mono ?_); rintro e wq ⟨rfl, bq⟩; have eq0 := (blk1 (box_at w _ bq)).1; have hzq := box_lt w _ bq; have hBq := chain HB.out bq; have Aq := HV.out.below hBq)
      | (go_at_call 46; (refine (HAL.out _ Aq).mono ?_); rintro e w1 ⟨⟨u8, rfl, hu8⟩, b1⟩; obtain ⟨a8, c8, rfl⟩ := hu8.val; rw [HQE.out]; obtain ⟨e0, hz⟩ := keep1' hzq eq0 b1; have hB1 := chain hBq b1))
    clear eq0 hzq hBq Aq bq hu8
    have B1 := Lib.hid hB1
    have HI0 : Hid (Ints (w.heap.size + 1) (ndl cs 0) (.slice none 0 0) w1) := Ints.nil0 _ _
    have HE0 := Lib.hid e0
    have hz1 : w.heap.size + 1 ≤ w1.heap.size := hz
    clear hB1 b1 e0 hz
    go_loopw [4, 17] (fun u i wr => ∃ k : Nat, k ≤ n ∧ i = .int .i64 k ∧ Hid (Ints (w.heap.size + 1) (ndl cs k) u wr) ∧ Below (w.heap.size + 1) w1 wr) (fun _ i _ => n - (intOf i).toNat)
    case atStart => exact ⟨0, Nat.zero_le _, rfl, HI0, Below.refl _ _⟩
    case round =>
      clear HI0
      obtain ⟨k, hk, rfl, HT, hbl⟩ := hrel
      obtain ⟨wo', rfl⟩ : ∃ wo' : World, wo' = wr := ⟨_, rfl⟩
      have hsz := hbl.size
      have e0 := (hbl.cell (p := ⟨w.heap.size, 0, none⟩) (by simp only; omega)).trans HE0.out
      have hz : w.heap.size < wo'.heap.size := by omega
      have BW : Below w.heap.size w wo' := B1.out.trans (hbl.mono (by omega))
      by_cases hlt : k < n
      · have hkc : k < cs.length := by rw [← HN.out]; exact hlt
        have hkI : (k : Int) < (n : Int) := by omega
        have hwl := wo_len cs k hkc
        have hndl := ndl_len cs k
        have HWK := Lib.hid (HW.out k wo' hkc (HV.out.below BW))
        obtain ⟨x, hx⟩ : ∃ x, (sol (wo cs k)).length = x := ⟨_, rfl⟩
        have HC := Lib.hid (fun (u : Value) (W : World) (hr : RdC (wo cs k) u W) => pzAll_any (wo cs k) u W (by have := HN.out; omega) (HA.out.wo k) hr)
        by_cases hxq : x = q
        · have HE := Lib.hid (ndl_yes (cs := cs) (n := k) (by rw [hx, HQE.out]; exact hxq))
          have hxI : ((x : Int) == (q : Int)) = true := by rw [hxq]; simp
          have HXL := Lib.hid hx
          clear hx hwl hxq
          go_wp2_with (first
            | (go_at_call 54; (refine HWK.out.mono ?_); rintro e w2 ⟨⟨u, rfl, hu⟩, b2⟩; obtain ⟨e1, z1⟩ := keep1' hz e0 b2; have hu2 := hu.rd)
            | (go_at_call 46; (refine (HC.out _ _ hu2).mono ?_); rintro e w3 ⟨⟨u9, rfl, hu9⟩, b3⟩; obtain ⟨a9, c9, rfl⟩ := hu9.val; rw [HXL.out]; obtain ⟨e2, z2⟩ := keep1' z1 e1 b3)
            | (at_builtin; refine append_int1 _ rfl _ _ rfl (w.heap.size + 1) (ndl cs k) _ rfl (((HT.out.below b2).below b3).below ((Below.refl _ _).alloc (Nat.le_refl _) _)) w3.heap.size (k : Int) rfl (by simp) (by omega) (by have := b2.size; have := b3.size; simp only [World.size_alloc]; omega) ?_; intro v4 w4 u4 b4))
          have hs2 := b2.size
          have B3 := (hbl.trans (b2.mono (by omega))).trans (b3.mono (by omega))
          have B4 := (B3.alloc (by have := B3.size; omega) (.cells #[.int .i64 (k : Int)] 3)).trans b4
          go_roundw
          case rel => exact ⟨k + 1, by omega, by go_num, by show Ints _ _ _ _; rw [HE.out]; exact u4, B4⟩
          case measure => simp [intOf]; omega
        · have HE := Lib.hid (ndl_no (cs := cs) (n := k) (by rw [hx, HQE.out]; exact hxq))
          have hxI : ((x : Int) == (q : Int)) = false := by rw [beq_eq_false_iff_ne]; omega
          have HXL := Lib.hid hx
          clear hx hwl hxq
          go_wp2_with (first
            | (go_at_call 54; (refine HWK.out.mono ?_); rintro e w2 ⟨⟨u, rfl, hu⟩, b2⟩; obtain ⟨e1, z1⟩ := keep1' hz e0 b2; have hu2 := hu.rd)
            | (go_at_call 46; (refine (HC.out _ _ hu2).mono ?_); rintro e w3 ⟨⟨u9, rfl, hu9⟩, b3⟩; obtain ⟨a9, c9, rfl⟩ := hu9.val; rw [HXL.out]; obtain ⟨e2, z2⟩ := keep1' z1 e1 b3))
          have hs2 := b2.size
          have B3 := (hbl.trans (b2.mono (by omega))).trans (b3.mono (by omega))
          go_roundw
          case rel => exact ⟨k + 1, by omega, by go_num, by show Ints _ _ _ _; rw [HE.out]; exact (HT.out.below b2).below b3, B3⟩
          case measure => simp [intOf]; omega
      · have HF : Hid (ndl cs k = ndP cs) := by show _ = _; rw [HS.out, show k = cs.length by have := HN.out; omega]
        go_wp2
        go_ret2
        exact ⟨⟨_, rfl, by rw [← HF.out]; exact HT.out.mono (by omega)⟩, BW⟩
set_option maxHeartbeats 8000000 in
theorem iLf_any (cs : List Cl) (ad : Addr) (n cap : Nat) (w : World) (hn : cs.length ≤ 1048576) (h : RdC cs (.slice (some ad) n cap) w) :
    Calls Tryd.prog 37 #[.agg #[.slice (some ad) n cap]] w fun e w' => (∃ u, e = .returned (.tuple #[u, .bool (pzB cs)]) ∧ Ints w.heap.size (lfP cs) u w') ∧ Below w.heap.size w w' := by
  have HV := Lib.hid h
  have HR := Lib.hid (h.alloc (.cells #[.slice (some ad) n cap] 38))
  have hb : Below w.heap.size w (w.alloc (.cells #[.slice (some ad) n cap] 38)) := (Below.refl _ _).alloc (Nat.le_refl _) _
  have HB := Lib.hid hb
  have HL := Lib.hid h.len
  clear h hb
  cases hg : pzB cs with
  | false =>
    have HG := Lib.hid hg
    have HS := Lib.hid (lfP_no hg)
    clear hg
    go_enter Tryd.func37, Tryd.ntmps37
    go_wp2_with (go_at_call 48; (with_reducible refine (isPuzzle_b cs false _ _ hn HR.out HG.out).mono ?_); rintro e w1 ⟨rfl, b1⟩)
    go_ret2
    exact ⟨⟨_, rfl, by rw [HS.out]; exact Ints.nil0 _ _⟩, chain HB.out b1⟩
  | true =>
    have HG := Lib.hid hg
    have HS := Lib.hid (lfP_yes hg)
    have hl6 := pz_len hg
    have hall := AllC.of hg
    have HA := Lib.hid hall
    have hnl := HL.out.1
    have hnc := HL.out.2
    have HN : Hid (n = cs.length) := hnl
    have hn6 : n ≤ 6 := by omega
    have hcn : n ≤ cap := by omega
    clear hg hall hnl hl6 hnc
    go_enter Tryd.func37, Tryd.ntmps37
    go_wp2_with (go_at_call 48; (with_reducible refine (isPuzzle_b cs true _ _ hn HR.out HG.out).mono ?_); rintro e w1 ⟨rfl, b1⟩; have e0 := (blk1 (box_at w _ b1)).1; have hz := box_lt w _ b1; have hB1 := chain HB.out b1)
    have B1 := Lib.hid hB1
    have HI0 : Hid (Ints (w.heap.size + 1) (lft cs 0) (.slice none 0 0) w1) := Ints.nil0 _ _
    have HE0 := Lib.hid e0
    have hz1 : w.heap.size + 1 ≤ w1.heap.size := hz
    clear hB1 b1 e0 hz
    go_loopw [4, 13] (fun u i wr => ∃ k : Nat, k ≤ n + 1 ∧ i = .int .i64 k ∧ Hid (Ints (w.heap.size + 1) (lft cs k) u wr) ∧ Below (w.heap.size + 1) w1 wr) (fun _ i _ => n + 1 - (intOf i).toNat)
    case atStart => exact ⟨0, Nat.zero_le _, rfl, HI0, Below.refl _ _⟩
    case round =>
      clear HI0
      obtain ⟨k, hk, rfl, HT, hbl⟩ := hrel
      obtain ⟨wo', rfl⟩ : ∃ wo' : World, wo' = wr := ⟨_, rfl⟩
      have hsz := hbl.size
      have e0 := (hbl.cell (p := ⟨w.heap.size, 0, none⟩) (by simp only; omega)).trans HE0.out
      have hz : w.heap.size < wo'.heap.size := by omega
      have BW : Below w.heap.size w wo' := B1.out.trans (hbl.mono (by omega))
      by_cases hlt : k < n + 1
      · have hkI : (k : Int) < (n : Int) + 1 := by omega
        have hkI2 : (k : Int) ≤ (n : Int) := by omega
        have hlen := lft_len cs k
        have HE := Lib.hid (lft_succ cs k)
        have hr := (HV.out.below BW).cut 0 k k (Nat.zero_le _) (by have := HN.out; omega) (by omega)
        rw [take_cut] at hr
        simp only [Nat.sub_zero] at hr
        obtain ⟨A, hA⟩ : ∃ A, adC ad 0 k = A := ⟨_, rfl⟩
        rw [hA] at hr
        have HAD := Lib.hid hA
        have HR2 := Lib.hid hr
        obtain ⟨x, hx⟩ : ∃ x, (sol (cs.take k)).length = x := ⟨_, rfl⟩
        rw [hx] at HE
        have HC := Lib.hid (fun (u : Value) (W : World) (hr : RdC (cs.take k) u W) => count_x (cs.take k) u x W (by rw [List.length_take]; omega) (HA.out.take k) hr hx)
        clear hr hA hx
        go_wp2_with (first
          | (go_at_call 57; (refine (cut_to ad A n cap 0 k k 0 (k : Int) _ HAD.out (by omega) rfl rfl (Nat.zero_le _) (by omega)).mono ?_); rintro e wc ⟨rfl, rfl⟩)
          | (go_at_call 55; (refine (HC.out _ _ HR2.out).mono ?_); rintro e w3 ⟨rfl, b3⟩; obtain ⟨e2, z2⟩ := keep1' hz e0 b3)
          | (at_builtin; refine append_int1 _ rfl _ _ rfl (w.heap.size + 1) (lft cs k) _ rfl ((HT.out.below b3).below ((Below.refl _ _).alloc (Nat.le_refl _) _)) w3.heap.size (x : Int) rfl (by simp) (by omega) (by have := b3.size; simp only [World.size_alloc]; omega) ?_; intro v4 w4 u4 b4))
        have B3 := hbl.trans (b3.mono (by omega))
        have B4 := (B3.alloc (by have := B3.size; omega) (.cells #[.int .i64 (x : Int)] 3)).trans b4
        go_roundw
        case rel => exact ⟨k + 1, by omega, by go_num, by show Ints _ _ _ _; rw [HE.out]; exact u4, B4⟩
        case measure => simp [intOf]; omega
      · have hkI : ¬ (k : Int) < (n : Int) + 1 := by omega
        have hkI2 : ¬ (k : Int) ≤ (n : Int) := by omega
        have HF : Hid (lft cs k = lfP cs) := by show _ = _; rw [HS.out, show k = cs.length + 1 by have := HN.out; omega]
        go_wp2
        go_ret2
        exact ⟨⟨_, rfl, by rw [← HF.out]; exact HT.out.mono (by omega)⟩, BW⟩
set_option maxHeartbeats 8000000 in
theorem sLf_any (cs : List Cl) (ad : Addr) (n cap : Nat) (w : World) (hn : cs.length ≤ 1048576) (h : RdC cs (.slice (some ad) n cap) w) :
    Calls Tryd.prog 36 #[.agg #[.slice (some ad) n cap]] w fun e w' => (∃ u, e = .returned (.tuple #[u, .bool (pzB cs)]) ∧ Ints w.heap.size (lfP cs) u w') ∧ Below w.heap.size w w' := by
  have HV := Lib.hid h
  have HR := Lib.hid (h.alloc (.cells #[.slice (some ad) n cap] 38))
  have hb : Below w.heap.size w (w.alloc (.cells #[.slice (some ad) n cap] 38)) := (Below.refl _ _).alloc (Nat.le_refl _) _
  have HB := Lib.hid hb
  have HL := Lib.hid h.len
  clear h hb
  cases hg : pzB cs with
  | false =>
    have HG := Lib.hid hg
    have HS := Lib.hid (lfP_no hg)
    clear hg
    go_enter Tryd.func36, Tryd.ntmps36
    go_wp2_with (go_at_call 45; (with_reducible refine (pzGood_b cs false _ _ hn HR.out HG.out).mono ?_); rintro e w1 ⟨rfl, b1⟩)
    go_ret2
    exact ⟨⟨_, rfl, by rw [HS.out]; exact Ints.nil0 _ _⟩, chain HB.out b1⟩
  | true =>
    have HG := Lib.hid hg
    have HS := Lib.hid (lfP_yes hg)
    have hl6 := pz_len hg
    have hall := AllC.of hg
    have HA := Lib.hid hall
    have hnl := HL.out.1
    have hnc := HL.out.2
    have HN : Hid (n = cs.length) := hnl
    have hn6 : n ≤ 6 := by omega
    have hcn : n ≤ cap := by omega
    clear hg hall hnl hl6 hnc
    go_enter Tryd.func36, Tryd.ntmps36
    go_wp2_with (go_at_call 45; (with_reducible refine (pzGood_b cs true _ _ hn HR.out HG.out).mono ?_); rintro e w1 ⟨rfl, b1⟩; have e0 := (blk1 (box_at w _ b1)).1; have hz := box_lt w _ b1; have hB1 := chain HB.out b1)
    have B1 := Lib.hid hB1
    have HI0 : Hid (Ints (w.heap.size + 1) (lft cs 0) (.slice none 0 0) w1) := Ints.nil0 _ _
    have HE0 := Lib.hid e0
    have hz1 : w.heap.size + 1 ≤ w1.heap.size := hz
    clear hB1 b1 e0 hz
    go_loopw [4, 5] (fun u i wr => ∃ k : Nat, k ≤ n + 1 ∧ i = .int .i64 k ∧ Hid (Ints (w.heap.size + 1) (lft cs k) u wr) ∧ Below (w.heap.size + 1) w1 wr) (fun _ i _ => n + 1 - (intOf i).toNat)
    case atStart => exact ⟨0, Nat.zero_le _, rfl, HI0, Below.refl _ _⟩
    case round =>
      clear HI0
      obtain ⟨k, hk, rfl, HT, hbl⟩ := hrel
      obtain ⟨wo', rfl⟩ : ∃ wo' : World, wo' = wr := ⟨_, rfl⟩
      have hsz := hbl.size
      have e0 := (hbl.cell (p := ⟨w.heap.size, 0, none⟩) (by simp only; omega)).trans HE0.out
      have hz : w.heap.size < wo'.heap.size := by omega
      have BW : Below w.heap.size w wo' := B1.out.trans (hbl.mono (by omega))
      by_cases hlt : k < n + 1
      · have hkI : (k : Int) < (n : Int) + 1 := by omega
        have hkI2 : (k : Int) ≤ (n : Int) := by omega
        have hlen := lft_len cs k
        have HE := Lib.hid (lft_succ cs k)
        have hr := (HV.out.below BW).cut 0 k cap (Nat.zero_le _) (by have := HN.out; omega) (by omega)
        rw [take_cut] at hr
        simp only [Nat.sub_zero] at hr
        obtain ⟨A, hA⟩ : ∃ A, adC ad 0 cap = A := ⟨_, rfl⟩
        rw [hA] at hr
        have HAD := Lib.hid hA
        have HR2 := Lib.hid hr
        have hsl := fun W => cutH ad n cap k (by omega) W
        rw [hA] at hsl
        obtain ⟨x, hx⟩ : ∃ x, (sol (cs.take k)).length = x := ⟨_, rfl⟩
        rw [hx] at HE
        have HC := Lib.hid (fun (u : Value) (W : World) (hr : RdC (cs.take k) u W) => pzAll_any (cs.take k) u W (by rw [List.length_take]; omega) (HA.out.take k) hr)
        have HXL := Lib.hid hx
        clear hr hA hx
        go_wp2_with (first
          | (go_at_call 46; (refine (HC.out _ _ HR2.out).mono ?_); rintro e w3 ⟨⟨u9, rfl, hu9⟩, b3⟩; obtain ⟨a9, c9, rfl⟩ := hu9.val; rw [HXL.out]; obtain ⟨e2, z2⟩ := keep1' hz e0 b3)
          | (at_builtin; refine append_int1 _ rfl _ _ rfl (w.heap.size + 1) (lft cs k) _ rfl ((HT.out.below b3).below ((Below.refl _ _).alloc (Nat.le_refl _) _)) w3.heap.size (x : Int) rfl (by simp) (by omega) (by have := b3.size; simp only [World.size_alloc]; omega) ?_; intro v4 w4 u4 b4))
        have B3 := hbl.trans (b3.mono (by omega))
        have B4 := (B3.alloc (by have := B3.size; omega) (.cells #[.int .i64 (x : Int)] 3)).trans b4
        go_roundw
        case rel => exact ⟨k + 1, by omega, by go_num, by show Ints _ _ _ _; rw [HE.out]; exact u4, B4⟩
        case measure => simp [intOf]; omega
      · have hkI : ¬ (k : Int) < (n : Int) + 1 := by omega
        have hkI2 : ¬ (k : Int) ≤ (n : Int) := by omega
        have HF : Hid (lft cs k = lfP cs) := by show _ = _; rw [HS.out, show k = cs.length + 1 by have := HN.out; omega]
        go_wp2
        go_ret2
        exact ⟨⟨_, rfl, by rw [← HF.out]; exact HT.out.mono (by omega)⟩, BW⟩
end Go.Proofs.YtakckgbkfnogbaaDoor
