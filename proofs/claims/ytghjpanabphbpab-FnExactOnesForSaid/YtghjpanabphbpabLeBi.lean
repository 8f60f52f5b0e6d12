/-
  Least numbers: the program's least multiple.
-/
import Derived.Test.YtghjpanabphbpabLeBq
namespace Go.Proofs.Ytghjpanabphbpab
open Go.RowKit
set_option maxRecDepth 100000

theorem dig_at {ds : List Nat} {s : ByteArray} (hs : s = ⟨(tb ds).toArray⟩) (hd : ∀ d ∈ ds, d ≤ 9) (k : Nat) (h : k < s.size) : (s[k].toNat : Int) = 48 + ((ds.getD k 0 : Nat) : Int) ∧ ds.getD k 0 ≤ 9 := by
  subst hs
  have hk : k < ds.length := by rw [tb_sz] at h; exact h
  have e : (⟨(tb ds).toArray⟩ : ByteArray)[k]'h = dc (ds[k]) := by
    show (tb ds).toArray[k]'_ = _
    simp [tb]
  have h9 : ds[k] ≤ 9 := hd _ (List.getElem_mem _)
  rw [e, dc_toNat h9, List.getD_eq_getElem?_getD, List.getElem?_eq_getElem hk]
  exact ⟨by simp, h9⟩
theorem cell_grown {w w' : World} {row : Option Nat} (h : w.grownBy w' row) {g : Nat} (hg : g < w.heap.size) (hne : some g ≠ row) (k : Nat) : w'.cell? ⟨g, k, none⟩ = w.cell? ⟨g, k, none⟩ := by
  simp [World.cell?, h.block g hg hne]
/-- Behind a step that marks a rest and appends a text. -/
theorem bn_Q {B gm g n cap : Nat} {S : List (List Nat × Nat)} {w2 : World} (h : Que B S (.slice (some ⟨g, 0, none⟩) n cap) w2) (hne : (Value.slice (some ⟨g, 0, none⟩) n cap).ownBlock ≠ some gm) (o : Obj) (q : Nat) : Que B S (.slice (some ⟨g, 0, none⟩) n cap) ((w2.setCell ⟨gm, q, none⟩ (.bool true)).alloc o) :=
  (h.kept (grown_set q (.bool true)) hne).kept (row := none) (World.grownBy_alloc _ o none) (by simp [Value.ownBlock])
theorem lit_blk (w : World) (a : Addr) (v : Value) (o : Obj) : ((w.setCell a v).alloc o).heap[w.heap.size]? = some o := by
  have := heap_alloc_new (w.setCell a v) o
  rwa [show (w.setCell a v).heap.size = w.heap.size by simp [World.setCell]] at this
theorem bn_sz (w : World) (a : Addr) (v : Value) (o : Obj) : ((w.setCell a v).alloc o).heap.size = w.heap.size + 1 := by
  rw [World.size_alloc]; simp [World.setCell]
theorem bn_blk {gm g n cap q k : Nat} {w2 w5 : World} {o : Obj} (hg : ((w2.setCell ⟨gm, q, none⟩ (.bool true)).alloc o).grownBy w5 (Value.slice (some ⟨g, 0, none⟩) n cap).ownBlock) (hk : k < w2.heap.size) (h2 : k ≠ g) : w5.heap[k]? = (w2.setCell ⟨gm, q, none⟩ (.bool true)).heap[k]? := by
  have hs : (w2.setCell ⟨gm, q, none⟩ (.bool true)).heap.size = w2.heap.size := by simp [World.setCell]
  rw [hg.block k (by rw [World.size_alloc, hs]; omega) (by simpa [Value.ownBlock] using h2), Lib.alloc_old _ _ k (by rw [hs]; exact hk)]
theorem bn_M {gm g n0 n cap q : Nat} {f : Nat → Bool} {w2 w5 : World} {o : Obj} (h : BRow w2 gm n0 f) (hne : g ≠ gm) (hg : ((w2.setCell ⟨gm, q, none⟩ (.bool true)).alloc o).grownBy w5 (Value.slice (some ⟨g, 0, none⟩) n cap).ownBlock) : BRow w5 gm n0 (fun x => if x = q then true else f x) :=
  World.rowIs.of_block (h.put q true (f' := fun x => if x = q then true else f x) (fun _ => rfl)) (bn_blk hg h.lt (fun e => hne e.symm))
theorem bn_I {gm g n cap q k : Nat} {w2 w5 : World} {o x : Obj} (h : w2.heap[k]? = some x) (h1 : k ≠ gm) (h2 : g ≠ k) (hg : ((w2.setCell ⟨gm, q, none⟩ (.bool true)).alloc o).grownBy w5 (Value.slice (some ⟨g, 0, none⟩) n cap).ownBlock) : w5.heap[k]? = some x := by
  rw [bn_blk hg (Array.getElem?_eq_some_iff.1 h).1 (fun e => h2 e.symm), Below.heap_setCell w2 ⟨gm, q, none⟩ (.bool true) k h1]; exact h
theorem bn_B {gm g n cap q : Nat} {w w2 w5 : World} {o : Obj} (h : Below gm w w2) (h1 : gm ≤ g) (hg : ((w2.setCell ⟨gm, q, none⟩ (.bool true)).alloc o).grownBy w5 (Value.slice (some ⟨g, 0, none⟩) n cap).ownBlock) (hw : gm ≤ w2.heap.size) : Below gm w w5 := by
  have hs : (w2.setCell ⟨gm, q, none⟩ (.bool true)).heap.size = w2.heap.size := by simp [World.setCell]
  exact ((h.setCell (p := ⟨gm, q, none⟩) (Nat.le_refl _) _).alloc (by rw [hs]; exact hw) o).grown hg (by rw [World.size_alloc, hs]; omega) (fun k hk => by simp [Value.ownBlock] at hk; omega)
theorem bn_N {v v' : Value} {s k : Nat} (h : v'.ownBlock = v.ownBlock ∨ v'.ownBlock = some s) (h1 : v.ownBlock ≠ some k) (h2 : k ≠ s) : v'.ownBlock ≠ some k := by
  rcases h with e | e
  · rw [e]; exact h1
  · rw [e]; intro h3; cases h3; exact h2 rfl
set_option maxHeartbeats 4000000 in
theorem iLm_any (n : Nat) (ds : List Nat) (s : ByteArray) (w : World) (hn1 : 1 ≤ n) (hn : n ≤ 400) (hs : s = ⟨(tb ds).toArray⟩) (hd : ∀ d ∈ ds, d ≤ 9) (hl : ds.length ≤ 10) :
    Calls Try.prog 20 #[.int .i64 n, .string s] w fun e w' => (∃ (t : List Nat) (ok : Bool), e = .returned (.tuple #[.string ⟨(tb t).toArray⟩, .bool ok]) ∧ Res n ds t ok) ∧ Below w.heap.size w w' := by
  obtain ⟨i0, hi, hz0, hz1, hz2⟩ := info_parts (show (Try.prog.info? 4).map (fun i => (i.zero, i.size, i.bytes)) = some (some (.bool false), 1, 1) by kernel_rfl)
  have HG := Lib.hid (dig_at hs hd)
  have HD := Lib.hid hd
  have hsz : s.size = ds.length := by rw [hs, tb_sz]
  have HSZ := Lib.hid hsz
  have hs10 : s.size ≤ 10 := by omega
  have HN0 : Hid (n ≠ 0) := by show _ ≠ _; omega
  have hnI : (n : Int) ≠ 0 := by omega
  clear hs hd hl hsz
  go_enter Try.func20, Try.ntmps20
  go_wp2_with (refine wpList_make_rowB _ rfl _ _ 35 rfl 4 i0 (.bool false) Try.underlying35 hi hz0 hz1 rfl .i64 .i64 _ _ n rfl rfl (by omega) (by omega) (by rw [hz2]; omega) (by omega) ?_)
  have HQ0 : Hid (Que w.heap.size [([], 0)] (.slice (some ⟨w.heap.size + 1, 0, none⟩) 1 1) ((w.alloc (.cells (madeCells #[.bool false] n) 4)).alloc (.cells #[.string ⟨#[]⟩, .int .i64 0] 40))) := by
    have hb := heap_alloc_new (w.alloc (.cells (madeCells #[.bool false] n) 4)) (.cells #[.string ⟨#[]⟩, .int .i64 0] 40)
    rw [World.size_alloc] at hb
    exact ⟨rfl, .inr ⟨w.heap.size + 1, 1, _, rfl, by omega, hb, Nat.le_refl _, by unfold maxLen; omega, rfl, rfl⟩⟩
  have HR0 : Hid (BRow ((w.alloc (.cells (madeCells #[.bool false] n) 4)).alloc (.cells #[.string ⟨#[]⟩, .int .i64 0] 40)) w.heap.size n (fun _ => false)) :=
    (BRow.made w n).below ((Below.refl _ _).alloc (Nat.le_refl _) _)
  have HB0 : Below w.heap.size w ((w.alloc (.cells (madeCells #[.bool false] n) 4)).alloc (.cells #[.string ⟨#[]⟩, .int .i64 0] 40)) := by go_grown
  have HS0 : Hid (sq n ds 0 = .inr ⟨[([], 0)], fun _ => false⟩) := rfl
  go_loopw [7, 8] (fun qv iv wr => ∃ (i : Nat) (S : QS), iv = .int .i64 i ∧ Hid (sq n ds i = .inr S) ∧ Hid (Que w.heap.size S.q qv wr) ∧ Hid (BRow wr w.heap.size n S.m) ∧ Hid (qv.ownBlock ≠ some w.heap.size) ∧ i ≤ S.q.length ∧ S.q.length ≤ n ∧ Below w.heap.size w wr) (fun _ iv _ => 1000 - (intOf iv).toNat)
  case atStart => exact ⟨0, _, rfl, HS0, HQ0, HR0, by show _ ≠ _; simp [Value.ownBlock], Nat.zero_le _, by show 1 ≤ n; exact hn1, HB0⟩
  case round =>
    clear HQ0 HR0 HB0 HS0
    obtain ⟨i, S, rfl, HS, HQ, HM, HNE, hil, hln, hbl⟩ := hrel
    obtain ⟨wo, rfl⟩ : ∃ wo : World, wo = wr := ⟨_, rfl⟩
    have HV := Lib.hid (QInv.sq hn1 HD.out i S HS.out)
    have hq0 : 0 < S.q.length := by rw [HV.out.len]; omega
    obtain ⟨g, cap, hqv, hg0, hg1, hc0, hc1⟩ := HQ.out.form hq0
    subst hqv
    have hsz0 := hbl.size
    obtain ⟨L, hL⟩ : ∃ L, S.q.length = L := ⟨_, rfl⟩
    rw [hL] at hq0 hil hln
    have HL := Lib.hid hL
    rw [hL]
    clear hc0 hc1 hL
    by_cases hiL : i < L
    · have hiI : (i : Int) < (L : Int) := by omega
      go_wp2
      have HR9 := HV.out.rest i (by rw [HL.out]; exact hiL)
      have HT9 := HV.out.size i (by rw [HL.out]; exact hiL)
      have HD9 := Lib.hid (HV.out.dig i (by rw [HL.out]; exact hiL))
      obtain ⟨tr, htr⟩ : ∃ tr, S.q.getD i ([], 0) = tr := ⟨_, rfl⟩
      rw [htr] at HR9 HT9 HD9
      obtain ⟨T, R⟩ := tr
      have HTR := Lib.hid htr
      simp only at HR9 HT9 HD9
      clear htr
      have HI0 : Hid ((wo.iter s 0).heap[wo.heap.size]? = some (.stringIter s 0)) := heap_alloc_new wo (.stringIter s 0)
      have gA : wo.grownBy (wo.iter s 0) none := World.grownBy_alloc wo (.stringIter s 0) none
      have HQ1 : Hid (Que w.heap.size S.q (.slice (some ⟨g, 0, none⟩) L cap) (wo.iter s 0)) := by
        show Que _ _ _ _
        rw [← HL.out]; exact HQ.out.kept (row := none) gA (by simp [Value.ownBlock])
      have HM1 := Lib.hid (HM.out.kept (row := none) gA (by simp))
      have HB1 : Below w.heap.size w (wo.iter s 0) := hbl.alloc hsz0 (.stringIter s 0)
      have HNE2 : Hid ((Value.slice (some ⟨g, 0, none⟩) L cap).ownBlock ≠ some wo.heap.size) := by show _ ≠ _; simp [Value.ownBlock]; omega
      have HIT : Hid (w.heap.size < wo.heap.size) := by show _ < _; omega
      have HP0 : Hid (pdk n ds (T, R) S 0 = .inr S) := rfl
      have HNI : Hid ((Value.slice (some ⟨g, 0, none⟩) L cap).ownBlock ≠ some w.heap.size) := HNE.out
      clear HQ HM gA HNE
      go_loopg [7] s.size (fun m qv wr => ∃ (j : Nat) (S2 : QS), j + m = s.size ∧ Hid (pdk n ds (T, R) S j = .inr S2) ∧ Hid (Que w.heap.size S2.q qv wr) ∧ Hid (BRow wr w.heap.size n S2.m) ∧ Hid (qv.ownBlock ≠ some w.heap.size) ∧ Hid (qv.ownBlock ≠ some wo.heap.size) ∧ Hid (wr.heap[wo.heap.size]? = some (.stringIter s j)) ∧ Below w.heap.size w wr)
      case atStart => exact ⟨0, S, by omega, HP0, HQ1, HM1, HNI, HNE2, HI0, HB1⟩
      case round =>
        clear HQ1 HM1 HB1 HNE2 HP0 HNI HI0 hsz0 hbl
        obtain ⟨j, S2, hjm, HP, HQ, HM, HNE, HNF, HI, hbl⟩ := hrel
        obtain ⟨wp, rfl⟩ : ∃ wp : World, wp = wr := ⟨_, rfl⟩
        have hV2 := HV.out.pdk hn1 HD.out (tr := (T, R)) (by show T.length < _; rw [HL.out]; omega) HD9.out j S2 HP.out
        have HV2 := Lib.hid hV2
        have hln2 : S2.q.length ≤ n := hV2.1.le hn1
        have hL2 : L ≤ S2.q.length := by rw [← HL.out]; exact hV2.2.1
        have hq0' : 0 < S2.q.length := by omega
        obtain ⟨g2, cap2, hqv, hg0', hg1', hc0, hc1⟩ := HQ.out.form hq0'
        subst hqv
        have hsz0 := hbl.size
        have c0 := hc0 i (by omega)
        have c1 := hc1 i (by omega)
        have hget := hV2.2.2 i (by rw [HL.out]; exact hiL)
        rw [hget, HTR.out] at c0 c1
        simp only at c0 c1
        rw [Nat.mul_comm] at c0 c1
        obtain ⟨tT, htT⟩ : ∃ tT : ByteArray, (⟨(tb T).toArray⟩ : ByteArray) = tT := ⟨_, rfl⟩
        rw [htT] at c0
        have HTT := Lib.hid htT
        have HC0 := Lib.hid c0
        have HC1 := Lib.hid c1
        obtain ⟨L2, hL2e⟩ : ∃ L2, S2.q.length = L2 := ⟨_, rfl⟩
        rw [hL2e] at hln2 hL2 hq0'
        have HL2 := Lib.hid hL2e
        have HQL : Hid (Que w.heap.size S2.q (.slice (some ⟨g2, 0, none⟩) L2 cap2) wp) := by show Que _ _ _ _; rw [← hL2e]; exact HQ.out
        have HNE' : Hid (g2 ≠ w.heap.size) := by show _ ≠ _; have := HNE.out; simp [Value.ownBlock] at this; exact this
        have HNF' : Hid (g2 ≠ wo.heap.size) := by show _ ≠ _; have := HNF.out; simp [Value.ownBlock] at this; exact this
        rw [hL2e]
        clear hV2 hc0 hc1 c0 c1 hget hL2e HQ HNE HNF htT
        by_cases hjs : j < s.size
        · obtain ⟨hc, hd9⟩ := HG.out j hjs
          obtain ⟨d, hd⟩ : ∃ d, ds.getD j 0 = d := ⟨_, rfl⟩
          rw [hd] at hc hd9
          have HDJ := Lib.hid hd
          have ha : (s[j]'hjs).toNat < 128 := by omega
          have HPS := Lib.hid (pdk_inr HP.out)
          rw [hd] at HPS
          clear hd
          obtain ⟨q, hq⟩ : ∃ q, (R * 10 + d) % n = q := ⟨_, rfl⟩
          have hqn : q < n := by rw [← hq]; exact Nat.mod_lt _ (by omega)
          have hqI : ((R : Int) * 10 + (48 + (d : Int) - 48)) % (n : Int) = (q : Int) := by rw [← hq, show (48 + (d : Int) - 48) = (d : Int) by omega]; push_cast; rfl
          have hqnI : (q : Int) < (n : Int) := by omega
          have HQQ := Lib.hid hq
          have hRb : (R : Int) < 400 := by omega
          clear hq
          have HD10 : Hid (Utf8.encode (48 + (d : Int)) = ⟨[dc d].toArray⟩) := enc_dig d hd9
          obtain ⟨D, hDD⟩ : ∃ D : ByteArray, (⟨[dc d].toArray⟩ : ByteArray) = D := ⟨_, rfl⟩
          have HX : Hid (tT ++ D = ⟨(tb (T ++ [d])).toArray⟩) := by show _ = _; rw [← HTT.out, ← hDD]; exact tb_cat T d
          have hDs : D.size = 1 := by rw [← hDD]; rfl
          have hTs : tT.size ≤ 400 := by rw [← HTT.out, tb_sz]; omega
          rw [hDD] at HD10
          have hEnc := HD10.out
          have HTE : Hid (tT.toList.isEmpty = T.isEmpty) := by show _ = _; rw [← HTT.out, Go.ByteArray.toList_mk]; cases T <;> rfl
          have HNN : Hid ((Value.slice (some ⟨g2, 0, none⟩) L2 cap2).ownBlock ≠ some w.heap.size) := by show _ ≠ _; have := HNE'.out; simpa [Value.ownBlock] using this
          have HNO : Hid ((Value.slice (some ⟨g2, 0, none⟩) L2 cap2).ownBlock ≠ some wo.heap.size) := by show _ ≠ _; have := HNF'.out; simpa [Value.ownBlock] using this
          have hjk : j + 1 + (gk - 1) = s.size ∧ 0 < gk := by omega
          clear hDD HD10
          by_cases hz : T = [] ∧ d = 0
          · have HPZ : Hid (pdk n ds (T, R) S (j + 1) = .inr S2) := by show _ = _; rw [HPS.out]; unfold pd; rw [if_pos hz]
            have hE : tT.toList.isEmpty = true := by rw [HTE.out, hz.1]; rfl
            have hZ : ((48 : Int) + (d : Int) == 48) = true := by simp; omega
            clear HP HPS hz
            go_wp2_with (at_next; refine wpList_next_str _ rfl _ rfl wo.heap.size s j rfl HI.out hjs ha ?_; intro w2 hr2 hg2 hs2; have HI2 := Lib.hid hr2; have HG2 := Lib.hid hg2; have HS2 := Lib.hid hs2; have e0 := (cell_grown hg2 hg1' (by simpa using HNF'.out) (i * 2)).trans HC0.out; have e1 := (cell_grown hg2 hg1' (by simpa using HNF'.out) (i * 2 + 1)).trans HC1.out; have HM2 := Lib.hid (HM.out.kept hg2 (by have := HIT.out; simp; omega)); have e2 := HM2.out.cell hqn; have e3 := HM2.out.frozen q; have HB2 : Below w.heap.size w w2 := hbl.grown hg2 hsz0 (fun k hk => (by cases hk; have := HIT.out; omega)); have HQ2 := Lib.hid (HQL.out.kept hg2 (by simpa [Value.ownBlock] using HNF'.out)); clear hr2 hg2 hs2 e2 e3)
            go_roundg (gk - 1)
            case measure => omega
            case rel => exact ⟨j + 1, S2, by omega, HPZ, HQ2, HM2, HNN, HNO, HI2, HB2⟩
          · have hz2 : tT.toList.isEmpty = false ∨ (tT.toList.isEmpty = true ∧ ((48 : Int) + (d : Int) == 48) = false) := by
              rw [HTE.out]
              cases T with
              | nil => right; refine ⟨rfl, ?_⟩; simp; intro h; exact hz ⟨rfl, by omega⟩
              | cons x t => left; rfl
            by_cases hq0 : q = 0
            · have hm0 : S2.m q = false := by rw [hq0]; exact HV2.out.1.m0
              have HR : Hid (Res n ds (T ++ [d]) true) := by
                refine .inl ⟨rfl, i + 1, ?_⟩
                have h1 : pdk n ds (T, R) S (j + 1) = .inl (T ++ [d]) := by rw [HPS.out]; unfold pd; rw [if_neg hz, if_pos (by rw [HQQ.out]; exact hq0)]
                rw [sq_inr HS.out (by rw [HL.out]; exact hiL), HTR.out]
                obtain ⟨m, hm⟩ : ∃ m, ds.length = j + 1 + m := ⟨ds.length - (j + 1), by rw [← HSZ.out]; omega⟩
                rw [hm]; exact pdk_inl h1 m
              have hqz : ((q : Int) == 0) = true := by simp [hq0]
              clear HP HPS hz hq0
              rcases hz2 with hE | ⟨hE, hZ⟩
              all_goals
                go_wp2_with (at_next; refine wpList_next_str _ rfl _ rfl wo.heap.size s j rfl HI.out hjs ha ?_; intro w2 hr2 hg2 hs2; have HI2 := Lib.hid hr2; have HG2 := Lib.hid hg2; have HS2 := Lib.hid hs2; have e0 := (cell_grown hg2 hg1' (by simpa using HNF'.out) (i * 2)).trans HC0.out; have e1 := (cell_grown hg2 hg1' (by simpa using HNF'.out) (i * 2 + 1)).trans HC1.out; have HM2 := Lib.hid (HM.out.kept hg2 (by have := HIT.out; simp; omega)); have e2 := HM2.out.cell hqn; have e3 := HM2.out.frozen q; have HB2 : Below w.heap.size w w2 := hbl.grown hg2 hsz0 (fun k hk => (by cases hk; have := HIT.out; omega)); have HQ2 := Lib.hid (HQL.out.kept hg2 (by simpa [Value.ownBlock] using HNF'.out)); rw [hm0] at e2; clear hr2 hg2 hs2)
                go_ret2
                first | exact ⟨⟨T ++ [d], true, ret_sb HX.out rfl, HR.out⟩, HB2⟩ | exact ⟨⟨T ++ [d], .inr ⟨ret_sb HX.out rfl, HR.out⟩⟩, HB2⟩ | exact ⟨⟨T ++ [d], ret_sb HX.out rfl, HR.out⟩, HB2⟩
            · have hqz : ((q : Int) == 0) = false := by simp; omega
              cases hm : S2.m q with
              | true =>
                have HPZ : Hid (pdk n ds (T, R) S (j + 1) = .inr S2) := by show _ = _; rw [HPS.out]; unfold pd; rw [if_neg hz, HQQ.out, if_neg hq0, if_pos hm]
                clear HP HPS hz hq0
                rcases hz2 with hE | ⟨hE, hZ⟩
                all_goals
                  go_wp2_with (at_next; refine wpList_next_str _ rfl _ rfl wo.heap.size s j rfl HI.out hjs ha ?_; intro w2 hr2 hg2 hs2; have HI2 := Lib.hid hr2; have HG2 := Lib.hid hg2; have HS2 := Lib.hid hs2; have e0 := (cell_grown hg2 hg1' (by simpa using HNF'.out) (i * 2)).trans HC0.out; have e1 := (cell_grown hg2 hg1' (by simpa using HNF'.out) (i * 2 + 1)).trans HC1.out; have HM2 := Lib.hid (HM.out.kept hg2 (by have := HIT.out; simp; omega)); have e2 := HM2.out.cell hqn; have e3 := HM2.out.frozen q; have HB2 : Below w.heap.size w w2 := hbl.grown hg2 hsz0 (fun k hk => (by cases hk; have := HIT.out; omega)); have HQ2 := Lib.hid (HQL.out.kept hg2 (by simpa [Value.ownBlock] using HNF'.out)); rw [hm] at e2; clear hr2 hg2 hs2)
                  go_roundg (gk - 1)
                  case measure => omega
                  case rel => exact ⟨j + 1, S2, by omega, HPZ, HQ2, HM2, HNN, HNO, HI2, HB2⟩
              | false =>
                have HPZ : Hid (pdk n ds (T, R) S (j + 1) = .inr ⟨S2.q ++ [(T ++ [d], q)], fun x => if x = q then true else S2.m x⟩) := by
                  show _ = _; rw [HPS.out]; unfold pd; rw [if_neg hz, HQQ.out, if_neg hq0, if_neg (by rw [hm]; simp)]
                clear HP HPS hz hq0
                rcases hz2 with hE | ⟨hE, hZ⟩
                all_goals
                  go_wp2_with (first | (at_next; refine wpList_next_str _ rfl _ rfl wo.heap.size s j rfl HI.out hjs ha ?_; intro w2 hr2 hg2 hs2; have HI2 := Lib.hid hr2; have HG2 := Lib.hid hg2; have HS2 := Lib.hid hs2; have e0 := (cell_grown hg2 hg1' (by simpa using HNF'.out) (i * 2)).trans HC0.out; have e1 := (cell_grown hg2 hg1' (by simpa using HNF'.out) (i * 2 + 1)).trans HC1.out; have HM2 := Lib.hid (HM.out.kept hg2 (by have := HIT.out; simp; omega)); have e2 := HM2.out.cell hqn; have e3 := HM2.out.frozen q; have HB2 : Below w.heap.size w w2 := hbl.grown hg2 hsz0 (fun k hk => (by cases hk; have := HIT.out; omega)); have HQ2 := Lib.hid (HQL.out.kept hg2 (by simpa [Value.ownBlock] using HNF'.out)); rw [hm] at e2; clear hr2 hg2 hs2) | (at_builtin; refine wpList_append_begun _ rfl _ _ rfl w.heap.size S2.q _ rfl (bn_Q HQ2.out HNN.out _ q) w2.heap.size (tT ++ D) _ (T ++ [d], q) rfl (lit_blk w2 _ _ _) HX.out rfl (by rw [HL2.out]; omega) (by have := HS2.out; simp [World.setCell]; omega) ?_; intro v5 w5 hQ5 hg5 hat5; have HQ5 := Lib.hid hQ5; have HG5 := Lib.hid hg5; have HAT := Lib.hid hat5; clear hQ5 hg5 hat5))
                  have HM5 : Hid (BRow w5 w.heap.size n (fun x => if x = q then true else S2.m x)) := bn_M HM2.out HNE'.out HG5.out
                  have HI5 : Hid (w5.heap[wo.heap.size]? = some (.stringIter s (j + 1))) := bn_I HI2.out (by have := HIT.out; omega) HNF'.out HG5.out
                  have HB5 : Below w.heap.size w w5 := bn_B HB2 hg0' HG5.out (by have := HS2.out; omega)
                  have HN5 : Hid (v5.ownBlock ≠ some w.heap.size) := bn_N HAT.out HNN.out (by rw [bn_sz]; have := HS2.out; omega)
                  have HO5 : Hid (v5.ownBlock ≠ some wo.heap.size) := bn_N HAT.out HNO.out (by rw [bn_sz]; have := (Array.getElem?_eq_some_iff.1 HI2.out).1; omega)
                  go_roundg (gk - 1)
                  case measure => omega
                  case rel => exact ⟨j + 1, _, by omega, HPZ, HQ5, HM5, HN5, HO5, HI5, HB5⟩
        · have hjs' : j = s.size := by omega
          have HS' : Hid (sq n ds (i + 1) = .inr S2) := by show _ = _; rw [sq_inr HS.out (by rw [HL.out]; exact hiL), HTR.out, ← HSZ.out, ← hjs']; exact HP.out
          have HQ' : Hid (Que w.heap.size S2.q (.slice (some ⟨g2, 0, none⟩) L2 cap2) wp) := HQL
          have HNN : Hid ((Value.slice (some ⟨g2, 0, none⟩) L2 cap2).ownBlock ≠ some w.heap.size) := by show _ ≠ _; have := HNE'.out; simpa [Value.ownBlock] using this
          have hil2 : i + 1 ≤ S2.q.length := by rw [HL2.out]; omega
          have hln3 : S2.q.length ≤ n := by rw [HL2.out]; exact hln2
          clear HS HP HV HV2
          go_wp2_with (at_next; refine wpList_next_end _ rfl _ rfl wo.heap.size s j rfl HI.out hjs ?_)
          go_roundw
          case rel => exact ⟨i + 1, S2, by go_num, HS', HQ', HM, HNN, hil2, hln3, hbl⟩
          case measure => simp [intOf]; omega
    · have hiI : ¬ (i : Int) < (L : Int) := by omega
      have HR : Hid (Res n ds [] false) := .inr ⟨rfl, rfl, i, S, HS.out, by rw [HL.out]; omega⟩
      go_wp2
      go_ret2
      first | exact ⟨⟨[], false, rfl, HR.out⟩, hbl⟩ | exact ⟨⟨[], .inl ⟨rfl, HR.out⟩⟩, hbl⟩
end Go.Proofs.Ytghjpanabphbpab
