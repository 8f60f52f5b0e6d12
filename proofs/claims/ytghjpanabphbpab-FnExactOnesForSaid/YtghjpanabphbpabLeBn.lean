/-
  Least numbers: the model's least multiple, its walk.
-/
import Derived.Test.YtghjpanabphbpabLeBm
namespace Go.Proofs.Ytghjpanabphbpab
open Go.RowKit
set_option maxRecDepth 100000

theorem blkA {gm q k : Nat} {W : World} {o : Obj} (hk : k < W.heap.size) (h1 : k ≠ gm) : ((W.setCell ⟨gm, q, none⟩ (.bool true)).alloc o).heap[k]? = W.heap[k]? := by
  have hs : (W.setCell ⟨gm, q, none⟩ (.bool true)).heap.size = W.heap.size := by simp [World.setCell]
  rw [Lib.alloc_old _ _ k (by rw [hs]; exact hk), Below.heap_setCell W ⟨gm, q, none⟩ (.bool true) k h1]
theorem blkM {gm q : Nat} {W : World} {o : Obj} (hk : gm < W.heap.size) : ((W.setCell ⟨gm, q, none⟩ (.bool true)).alloc o).heap[gm]? = (W.setCell ⟨gm, q, none⟩ (.bool true)).heap[gm]? := by
  have hs : (W.setCell ⟨gm, q, none⟩ (.bool true)).heap.size = W.heap.size := by simp [World.setCell]
  rw [Lib.alloc_old _ _ gm (by rw [hs]; exact hk)]
theorem sizA (gm q : Nat) (W : World) (o : Obj) : ((W.setCell ⟨gm, q, none⟩ (.bool true)).alloc o).heap.size = W.heap.size + 1 := by
  rw [World.size_alloc]; simp [World.setCell]
theorem blkG {W2 W3 : World} {v : Value} {o : Obj} {k : Nat} (hg : W2.grownBy W3 v.ownBlock) (hk : k < W2.heap.size) (h : v.ownBlock ≠ some k) : (W3.alloc o).heap[k]? = W2.heap[k]? := by
  rw [Lib.alloc_old _ _ k (Nat.lt_of_lt_of_le hk hg.size), hg.block k hk (fun e => h e.symm)]
theorem blkH {W2 W3 : World} {v : Value} {k : Nat} (hg : W2.grownBy W3 v.ownBlock) (hk : k < W2.heap.size) (h : v.ownBlock ≠ some k) : W3.heap[k]? = W2.heap[k]? := hg.block k hk (fun e => h e.symm)
/-- What holds within a level. -/
structure Lvl (w : World) (n C b : Nat) (nv rv v u : Value) (S0 S : QS) (a : Nat) (W : World) : Prop where
  below : Below w.heap.size w W
  met : BRow W w.heap.size n S.m
  now : TRow w.heap.size (LT a S0) nv W
  rests : NRow w.heap.size (LR a S0) rv W
  next : TRow C (LT b S) v W
  left : NRow C (LR b S) u W
  ap : Apart v u
  gm : w.heap.size < C
  nb : ∀ k, nv.ownBlock = some k → k < C ∧ k ≠ w.heap.size
  rb : ∀ k, rv.ownBlock = some k → k < C ∧ k ≠ w.heap.size
  sz : C ≤ W.heap.size
theorem Lvl.A {w W : World} {n C b a : Nat} {nv rv v u : Value} {S0 S : QS} (h : Lvl w n C b nv rv v u S0 S a W) (q : Nat) (o : Obj) : TRow C (LT b S) v ((W.setCell ⟨w.heap.size, q, none⟩ (.bool true)).alloc o) :=
  own_kept h.next (fun k hk => blkA (own_lt h.next k hk).2 (by have := (own_lt h.next k hk).1; have := h.gm; omega))
theorem Lvl.B {w W W3 : World} {n C b a : Nat} {nv rv v u : Value} {S0 S : QS} (h : Lvl w n C b nv rv v u S0 S a W) {q : Nat} {o : Obj} (hg : ((W.setCell ⟨w.heap.size, q, none⟩ (.bool true)).alloc o).grownBy W3 v.ownBlock) (o' : Obj) : NRow C (LR b S) u (W3.alloc o') :=
  own_kept h.left (fun k hk => by
    have h1 := own_lt h.left k hk
    have h2 := h.gm
    rw [blkG hg (by rw [sizA]; omega) (fun e => h.ap k e hk), blkA h1.2 (by omega)])
theorem Lvl.C {w W W3 W5 : World} {n C b a : Nat} {nv rv v u v' u' : Value} {S0 S : QS} (h : Lvl w n C b nv rv v u S0 S a W) {q : Nat} {o o' : Obj} (y : List Nat × Nat) (hb : b ≤ S.q.length)
    (hg : ((W.setCell ⟨w.heap.size, q, none⟩ (.bool true)).alloc o).grownBy W3 v.ownBlock) (hat : v'.ownBlock = v.ownBlock ∨ v'.ownBlock = some ((W.setCell ⟨w.heap.size, q, none⟩ (.bool true)).alloc o).heap.size) (ht : TRow C (LT b S ++ [y.1]) v' W3)
    (hg2 : (W3.alloc o').grownBy W5 u.ownBlock) (hat2 : u'.ownBlock = u.ownBlock ∨ u'.ownBlock = some (W3.alloc o').heap.size) (hn : NRow C (LR b S ++ [y.2]) u' W5) :
    Lvl w n C b nv rv v' u' S0 ⟨S.q ++ [y], fun x => if x = q then true else S.m x⟩ a W5 := by
  have h2 := h.gm
  have hsz := h.sz
  have hvk : ∀ k, v.ownBlock = some k → C ≤ k ∧ k < W.heap.size := own_lt h.next
  have huk : ∀ k, u.ownBlock = some k → C ≤ k ∧ k < W.heap.size := own_lt h.left
  have s2 := sizA w.heap.size q W o
  have s3 := hg.size
  rw [s2] at s3
  have s4 : (W3.alloc o').heap.size = W3.heap.size + 1 := World.size_alloc _ _
  have s5 := hg2.size
  rw [s4] at s5
  have hlow : ∀ k, k < C → k ≠ w.heap.size → W5.heap[k]? = W.heap[k]? := fun k h1 h3 => by
    rw [blkH hg2 (by rw [s4]; omega) (fun e => by have := huk k e; omega), blkG hg (by rw [s2]; omega) (fun e => by have := hvk k e; omega), blkA (by omega) h3]
  have hmm : W5.heap[w.heap.size]? = (W.setCell ⟨w.heap.size, q, none⟩ (.bool true)).heap[w.heap.size]? := by
    rw [blkH hg2 (by rw [s4]; omega) (fun e => by have := huk _ e; omega), blkG hg (by rw [s2]; omega) (fun e => by have := hvk _ e; omega), blkM (by omega)]
  refine ⟨?_, ?_, ?_, ?_, ?_, ?_, ?_, h2, h.nb, h.rb, by omega⟩
  · exact ((((h.below.setCell (p := ⟨w.heap.size, q, none⟩) (Nat.le_refl _) _).alloc (by simp [World.setCell]; omega) o).grown hg (by rw [s2]; omega) (fun k hk => by have := hvk k hk; omega)).alloc (by omega) o').grown hg2 (by rw [s4]; omega) (fun k hk => by have := huk k hk; omega)
  · exact World.rowIs.of_block (h.met.put q true (f' := fun x => if x = q then true else S.m x) (fun _ => rfl)) hmm
  · exact own_kept h.now (fun k hk => hlow k (h.nb k hk).1 (h.nb k hk).2)
  · exact own_kept h.rests (fun k hk => hlow k (h.rb k hk).1 (h.rb k hk).2)
  · rw [LT_snoc hb]
    refine own_kept ht (fun k hk => ?_)
    have hl := own_lt ht k hk
    rw [blkH hg2 (by rw [s4]; omega) (fun e => ?_), Lib.alloc_old _ _ k hl.2]
    rcases hat with e1 | e1
    · rw [e1] at hk; exact h.ap k hk e
    · rw [e1] at hk; cases hk; have := huk _ e; rw [s2] at this; omega
  · rw [LR_snoc hb]; exact hn
  · intro k hk e
    rcases hat2 with e2 | e2
    · rw [e2] at e
      rcases hat with e1 | e1
      · rw [e1] at hk; exact h.ap k hk e
      · rw [e1] at hk; cases hk; have := huk _ e; rw [s2] at this; omega
    · rw [e2] at e; cases e
      have := own_lt ht _ hk
      rw [s4] at this; omega
theorem Lvl.drewN {w W : World} {n C b a : Nat} {nv rv v u : Value} {S0 S : QS} (h : Lvl w n C b nv rv v u S0 S a W) (k : Nat) : Lvl w n C b nv rv v u S0 S a (W.drewN k) :=
  ⟨below_drewN h.below k, h.met, h.now, h.rests, h.next, h.left, h.ap, h.gm, h.nb, h.rb, h.sz⟩
theorem lit_at (W : World) (a : Addr) (v : Value) (o : Obj) : ((W.setCell a v).alloc o).heap[W.heap.size]? = some o := lit_blk W a v o
set_option maxHeartbeats 4000000 in
theorem sLm_any (n : Nat) (ds : List Nat) (s : ByteArray) (w : World) (hn1 : 1 ≤ n) (hn : n ≤ 400) (hs : s = ⟨(tb ds).toArray⟩) (hd : ∀ d ∈ ds, d ≤ 9) (hl : ds.length ≤ 10) :
    Calls Try.prog 17 #[.int .i64 n, .string s] w fun e w' => (∃ (t : List Nat) (ok : Bool), e = .returned (.tuple #[.string ⟨(tb t).toArray⟩, .bool ok]) ∧ Res n ds t ok) ∧ Below w.heap.size w w' := by
  obtain ⟨i0, hi, hz0, hz1, hz2⟩ := info_parts (show (Try.prog.info? 4).map (fun i => (i.zero, i.size, i.bytes)) = some (some (.bool false), 1, 1) by kernel_rfl)
  have HG := Lib.hid (dig_at hs hd)
  have HEX := Lib.hid (ext_one hs)
  have HD := Lib.hid hd
  have hsz : s.size = ds.length := by rw [hs, tb_sz]
  have HSZ := Lib.hid hsz
  have hs10 : s.size ≤ 10 := by omega
  have hnI : (n : Int) ≠ 0 := by omega
  have hnF : ((n : Int) = 0) = False := eq_false hnI
  have hnF2 : (n = 0) = False := eq_false (by omega)
  clear hs hd hl hsz
  go_enter Try.func17, Try.ntmps17
  go_wp2_with (refine wpList_make_rowB _ rfl _ _ 35 rfl 4 i0 (.bool false) Try.underlying35 hi hz0 hz1 rfl .i64 .i64 _ _ n rfl rfl (by omega) (by omega) (by rw [hz2]; omega) (by omega) ?_)
  have HM0 : Hid (BRow (((w.alloc (.cells (madeCells #[.bool false] n) 4)).alloc (.cells #[.string ⟨#[]⟩] 9)).alloc (.cells #[.int .i64 0] 3)) w.heap.size n (fun _ => false)) :=
    ((BRow.made w n).below ((Below.refl _ _).alloc (Nat.le_refl _) _)).below ((Below.refl _ _).alloc (Nat.le_refl _) _)
  have HT0 : Hid (TRow w.heap.size [[]] (.slice (some ⟨w.heap.size + 1, 0, none⟩) 1 1) (((w.alloc (.cells (madeCells #[.bool false] n) 4)).alloc (.cells #[.string ⟨#[]⟩] 9)).alloc (.cells #[.int .i64 0] 3))) := by
    have hb := heap_alloc_new (w.alloc (.cells (madeCells #[.bool false] n) 4)) (.cells #[.string ⟨#[]⟩] 9)
    rw [World.size_alloc] at hb
    have hb2 : (((w.alloc (.cells (madeCells #[.bool false] n) 4)).alloc (.cells #[.string ⟨#[]⟩] 9)).alloc (.cells #[.int .i64 0] 3)).heap[w.heap.size + 1]? = some (.cells #[.string ⟨#[]⟩] 9) := by
      rw [Lib.alloc_old _ _ _ (by simp [World.size_alloc])]; exact hb
    exact ⟨rfl, .inr ⟨w.heap.size + 1, 1, _, rfl, by omega, hb2, Nat.le_refl _, by unfold maxLen; omega, rfl, rfl⟩⟩
  have HN0 : Hid (NRow w.heap.size [0] (.slice (some ⟨w.heap.size + 1 + 1, 0, none⟩) 1 1) (((w.alloc (.cells (madeCells #[.bool false] n) 4)).alloc (.cells #[.string ⟨#[]⟩] 9)).alloc (.cells #[.int .i64 0] 3))) := by
    have hb := heap_alloc_new ((w.alloc (.cells (madeCells #[.bool false] n) 4)).alloc (.cells #[.string ⟨#[]⟩] 9)) (.cells #[.int .i64 0] 3)
    rw [World.size_alloc, World.size_alloc] at hb
    exact ⟨rfl, .inr ⟨w.heap.size + 1 + 1, 1, _, rfl, by omega, hb, Nat.le_refl _, by unfold maxLen; omega, rfl, rfl⟩⟩
  have HB0 : Below w.heap.size w (((w.alloc (.cells (madeCells #[.bool false] n) 4)).alloc (.cells #[.string ⟨#[]⟩] 9)).alloc (.cells #[.int .i64 0] 3)) := by go_grown
  have HS0 : Hid (sq n ds 0 = .inr ⟨[([], 0)], fun _ => false⟩) := rfl
  go_loopg [7, 8, 9, 10] (n + 1) (fun gk nv rv x9 x10 wr => ∃ (a : Nat) (S : QS), a + gk = n + 1 ∧ Hid (sq n ds a = .inr S) ∧ Hid (TRow w.heap.size (LT a S) nv wr) ∧ Hid (NRow w.heap.size (LR a S) rv wr) ∧ Hid (BRow wr w.heap.size n S.m) ∧ Hid (nv.ownBlock ≠ some w.heap.size) ∧ Hid (rv.ownBlock ≠ some w.heap.size) ∧ a ≤ S.q.length ∧ S.q.length ≤ n ∧ w.heap.size < wr.heap.size ∧ Below w.heap.size w wr)
  case atStart => exact ⟨0, _, by omega, HS0, HT0, HN0, HM0, by show _ ≠ _; simp [Value.ownBlock], by show _ ≠ _; simp [Value.ownBlock]; omega, Nat.zero_le _, by show 1 ≤ n; exact hn1, by simp [World.size_alloc]; omega, HB0⟩
  case round =>
    clear HM0 HT0 HN0 HB0 HS0
    obtain ⟨a, S, hak, HS, HT, HN, HM, HNE1, HNE2, hal, hln, hgm, hbl⟩ := hrel
    obtain ⟨wl, rfl⟩ : ∃ wl : World, wl = wr := ⟨_, rfl⟩
    have HV := Lib.hid (QInv.sq hn1 HD.out a S HS.out)
    obtain ⟨L, hL⟩ : ∃ L, S.q.length = L := ⟨_, rfl⟩
    rw [hL] at hal hln
    have HL := Lib.hid hL
    obtain ⟨l, hl⟩ : ∃ l, (LT a S).length = l := ⟨_, rfl⟩
    have hl2 : a + l = L := by rw [← hl, LT_len, hL]; omega
    rcases HT.out.form with ⟨hnv, h0⟩ | ⟨gn, cn, hnv, hgn0, hgn1, hcn⟩
    · have HR : Hid (Res n ds [] false) := .inr ⟨rfl, rfl, a, S, HS.out, by rw [hL]; omega⟩
      subst hnv
      clear HT HN HM HS HV hL hl h0
      go_wp2
      go_ret2
      first | exact ⟨⟨[], false, rfl, HR.out⟩, hbl⟩ | exact ⟨⟨[], .inl ⟨rfl, HR.out⟩⟩, hbl⟩
    · by_cases hl0 : l = 0
      · have HR : Hid (Res n ds [] false) := .inr ⟨rfl, rfl, a, S, HS.out, by rw [hL]; omega⟩
        have h0' : (LT a S).length = 0 := by omega
        rw [h0'] at hnv
        subst hnv
        clear HT HN HM HS HV hL hl h0' hcn
        go_wp2
        go_ret2
        first | exact ⟨⟨[], false, rfl, HR.out⟩, hbl⟩ | exact ⟨⟨[], .inl ⟨rfl, HR.out⟩⟩, hbl⟩
      · have hlr : (LR a S).length = l := by rw [LR_len, hL]; omega
        rcases HN.out.form with ⟨hrv, h0⟩ | ⟨gr, cr, hrv, hgr0, hgr1, hcr⟩
        · omega
        · rw [hl] at hnv hcn
          rw [hlr] at hrv hcr
          subst hnv
          subst hrv
          have hne1 : gn ≠ w.heap.size := by have := HNE1.out; simpa [Value.ownBlock] using this
          have hne2 : gr ≠ w.heap.size := by have := HNE2.out; simpa [Value.ownBlock] using this
          have HLV : Hid (Lvl w n wl.heap.size L (.slice (some ⟨gn, 0, none⟩) l cn) (.slice (some ⟨gr, 0, none⟩) l cr) (.slice none 0 0) (.slice none 0 0) S S a wl) := by
            refine ⟨hbl, HM.out, HT.out, HN.out, ?_, ?_, ?_, hgm, ?_, ?_, Nat.le_refl _⟩
            · have : LT L S = [] := List.length_eq_zero_iff.1 (by rw [LT_len, hL]; omega)
              rw [this]; exact World.ownsRow_nil _ _ _ _
            · have : LR L S = [] := List.length_eq_zero_iff.1 (by rw [LR_len, hL]; omega)
              rw [this]; exact World.ownsRow_nil _ _ _ _
            · intro k hk; cases hk
            · intro k hk; cases hk; exact ⟨hgn1, hne1⟩
            · intro k hk; cases hk; exact ⟨hgr1, hne2⟩
          have hlI : (0 : Int) < (l : Int) := by omega
          have hdl : decide (0 < l) = true := by simp; omega
          have hdl2 : decide ((0 : Int) < (l : Int)) = true := by simp; omega
          clear HT HN HM HNE1 HNE2 hcn hcr hl hlr hL hbl hgn0 hgr0
          go_wp2
          go_loopw [9, 10, 24] (fun xv yv kv wr => ∃ (k : Nat) (S2 : QS), kv = .int .i64 k ∧ k ≤ l ∧ Hid (sq n ds (a + k) = .inr S2) ∧ Hid (Lvl w n wl.heap.size L (.slice (some ⟨gn, 0, none⟩) l cn) (.slice (some ⟨gr, 0, none⟩) l cr) xv yv S S2 a wr) ∧ L ≤ S2.q.length ∧ Hid (∀ j, j < L → S2.q.getD j ([], 0) = S.q.getD j ([], 0))) (fun _ _ kv _ => l - (intOf kv).toNat)
          case atStart => exact ⟨0, S, rfl, Nat.zero_le _, HS, HLV, by rw [HL.out]; exact Nat.le_refl _, fun _ _ => rfl⟩
          case round =>
            clear HLV
            obtain ⟨k, S2, rfl, hkl, HSK, HLV, hLS, HPR⟩ := hrel
            obtain ⟨wk, rfl⟩ : ∃ wk : World, wk = wr := ⟨_, rfl⟩
            have HV2 := Lib.hid (QInv.sq hn1 HD.out (a + k) S2 HSK.out)
            have hln2 : S2.q.length ≤ n := HV2.out.le hn1
            by_cases hkk : k < l
            · have hkI : (k : Int) < (l : Int) := by omega
              have hki : a + k < S2.q.length := by omega
              have hR9 := HV2.out.rest (a + k) hki
              have hT9 := HV2.out.size (a + k) hki
              have HD9 := Lib.hid (HV2.out.dig (a + k) hki)
              obtain ⟨tr, htr⟩ : ∃ tr, S2.q.getD (a + k) ([], 0) = tr := ⟨_, rfl⟩
              rw [htr] at hR9 hT9 HD9
              obtain ⟨T, R⟩ := tr
              have HTR := Lib.hid htr
              simp only at hR9 hT9 HD9
              have hpr := HPR.out (a + k) (by omega)
              rw [htr] at hpr
              have hTL : (LT a S).getD k [] = T := by rw [LT_get (by rw [HL.out]; omega), ← hpr]
              have hRL : (LR a S).getD k 0 = R := by rw [LR_get (by rw [HL.out]; omega), ← hpr]
              have HC0 : Hid (∀ W, TRow w.heap.size (LT a S) (.slice (some ⟨gn, 0, none⟩) l cn) W → W.cell? ⟨gn, k, none⟩ = some (.string ⟨(tb T).toArray⟩)) := fun W hW => by
                rcases hW.form with ⟨h, _⟩ | ⟨g, c, h, _, _, h4⟩
                · cases h
                · cases h; rw [h4 k (by rw [LT_len, HL.out]; omega), hTL]; rfl
              have HC1 : Hid (∀ W, NRow w.heap.size (LR a S) (.slice (some ⟨gr, 0, none⟩) l cr) W → W.cell? ⟨gr, k, none⟩ = some (.int .i64 (R : Nat))) := fun W hW => by
                rcases hW.form with ⟨h, _⟩ | ⟨g, c, h, _, _, h4⟩
                · cases h
                · cases h; rw [h4 k (by rw [LR_len, HL.out]; omega), hRL]; rfl
              obtain ⟨tT, htT⟩ : ∃ tT : ByteArray, (⟨(tb T).toArray⟩ : ByteArray) = tT := ⟨_, rfl⟩
              rw [htT] at HC0
              have HTT := Lib.hid htT
              have hTs : tT.size ≤ 400 := by rw [← htT, tb_sz]; omega
              have e0 := HC0.out wk HLV.out.now
              have HP0 : Hid (pdk n ds (T, R) S2 0 = .inr S2) := rfl
              clear htr hpr hTL hRL htT
              have hRb : (R : Int) < 400 := by omega
              have hdec : decide ((k : Int) < (l : Int)) = true := by simpa using hkI
              go_wp2
              go_loopw [9, 10, 13] (fun xv yv jv wr => ∃ (j : Nat) (S3 : QS), jv = .int .i64 j ∧ j ≤ s.size ∧ Hid (pdk n ds (T, R) S2 j = .inr S3) ∧ Hid (Lvl w n wl.heap.size L (.slice (some ⟨gn, 0, none⟩) l cn) (.slice (some ⟨gr, 0, none⟩) l cr) xv yv S S3 a wr)) (fun _ _ jv _ => s.size - (intOf jv).toNat)
              case atStart => exact ⟨0, S2, rfl, Nat.zero_le _, HP0, HLV⟩
              case round =>
                clear HLV e0 HP0
                obtain ⟨j, S3, rfl, hjs, HP, HLV⟩ := hrel
                obtain ⟨wj, rfl⟩ : ∃ wj : World, wj = wr := ⟨_, rfl⟩
                have hV3 := HV2.out.pdk hn1 HD.out (tr := (T, R)) (by show T.length < _; omega) HD9.out j S3 HP.out
                have hln3 : S3.q.length ≤ n := hV3.1.le hn1
                have hL3 : L ≤ S3.q.length := Nat.le_trans hLS hV3.2.1
                have HV3 := Lib.hid hV3
                clear hV3
                by_cases hlt : j < s.size
                · obtain ⟨hc, hd9⟩ := HG.out j hlt
                  have hex := HEX.out j hlt
                  obtain ⟨d, hd⟩ : ∃ d, ds.getD j 0 = d := ⟨_, rfl⟩
                  rw [hd] at hc hd9 hex
                  obtain ⟨D, hDD⟩ : ∃ D : ByteArray, (⟨[dc d].toArray⟩ : ByteArray) = D := ⟨_, rfl⟩
                  have HX : Hid (tT ++ D = ⟨(tb (T ++ [d])).toArray⟩) := by show _ = _; rw [← HTT.out, ← hDD]; exact tb_cat T d
                  have hDs : D.size = 1 := by rw [← hDD]; rfl
                  rw [hDD] at hex
                  have HPS := Lib.hid (pdk_inr HP.out)
                  rw [hd] at HPS
                  have hjI : (j : Int) < (s.size : Int) := by omega
                  obtain ⟨q, hq⟩ : ∃ q, (R * 10 + d) % n = q := ⟨_, rfl⟩
                  have hqn : q < n := by rw [← hq]; exact Nat.mod_lt _ (by omega)
                  have hqI : (10 * (R : Int) + (48 + (d : Int) - 48)) % (n : Int) = (q : Int) := by rw [← hq, show (48 + (d : Int) - 48) = (d : Int) by omega, Int.mul_comm]; push_cast; rfl
                  have hqnI : (q : Int) < (n : Int) := by omega
                  have HQQ := Lib.hid hq
                  have HTE : Hid (tT.toList.isEmpty = T.isEmpty) := by show _ = _; rw [← HTT.out, Go.ByteArray.toList_mk]; cases T <;> rfl
                  have e1 := HC1.out wj HLV.out.rests
                  have e2 := HLV.out.met.cell hqn
                  have e3 := HLV.out.met.frozen q
                  have hszj := HLV.out.sz
                  have hbj := HLV.out.below
                  clear hq hd hDD HP
                  by_cases hz : T = [] ∧ d = 0
                  · have HPZ : Hid (pdk n ds (T, R) S2 (j + 1) = .inr S3) := by show _ = _; rw [HPS.out]; unfold pd; rw [if_pos hz]
                    have hE : tT.toList.isEmpty = true := by rw [HTE.out, hz.1]; rfl
                    have hZ : ((48 : Int) + (d : Int) == 48) = true := by simp; omega
                    clear HPS hz e1 e2 e3
                    go_wp2
                    go_roundw
                    case rel => exact ⟨j + 1, S3, by go_num, by omega, HPZ, HLV⟩
                    case measure => simp [intOf]; omega
                  · have hz2 : tT.toList.isEmpty = false ∨ (tT.toList.isEmpty = true ∧ ((48 : Int) + (d : Int) == 48) = false) := by
                      rw [HTE.out]
                      cases T with
                      | nil => right; refine ⟨rfl, ?_⟩; simp; intro h; exact hz ⟨rfl, by omega⟩
                      | cons x t => left; rfl
                    by_cases hq0 : q = 0
                    · have HR : Hid (Res n ds (T ++ [d]) true) := by
                        refine .inl ⟨rfl, a + k + 1, ?_⟩
                        have h1 : pdk n ds (T, R) S2 (j + 1) = .inl (T ++ [d]) := by rw [HPS.out]; unfold pd; rw [if_neg hz, if_pos (by rw [HQQ.out]; exact hq0)]
                        rw [sq_inr HSK.out (by omega), HTR.out]
                        obtain ⟨m, hm⟩ : ∃ m, ds.length = j + 1 + m := ⟨ds.length - (j + 1), by rw [← HSZ.out]; omega⟩
                        rw [hm]; exact pdk_inl h1 m
                      have hqz : ((q : Int) == 0) = true := by simp [hq0]
                      clear HPS hz hq0 e2 e3
                      rcases hz2 with hE | ⟨hE, hZ⟩
                      all_goals
                        go_wp2
                        go_quiet (fail)
                        go_wp2
                        go_ret2
                        first | exact ⟨⟨T ++ [d], true, ret_sb HX.out rfl, HR.out⟩, below_drewN hbj _⟩ | exact ⟨⟨T ++ [d], .inr ⟨ret_sb HX.out rfl, HR.out⟩⟩, below_drewN hbj _⟩
                    · have hqz : ((q : Int) == 0) = false := by simp; omega
                      cases hm : S3.m q with
                      | true =>
                        have HPZ : Hid (pdk n ds (T, R) S2 (j + 1) = .inr S3) := by show _ = _; rw [HPS.out]; unfold pd; rw [if_neg hz, HQQ.out, if_neg hq0, if_pos hm]
                        rw [hm] at e2
                        clear HPS hz hq0 e3
                        rcases hz2 with hE | ⟨hE, hZ⟩
                        all_goals
                          go_wp2
                          go_quiet (fail)
                          go_wp2
                          go_roundw
                          case rel => exact ⟨j + 1, S3, by go_num, by omega, HPZ, Lvl.drewN HLV.out _⟩
                          case measure => simp [intOf]; omega
                      | false =>
                        have HPZ : Hid (pdk n ds (T, R) S2 (j + 1) = .inr ⟨S3.q ++ [(T ++ [d], q)], fun x => if x = q then true else S3.m x⟩) := by
                          show _ = _; rw [HPS.out]; unfold pd; rw [if_neg hz, HQQ.out, if_neg hq0, if_neg (by rw [hm]; simp)]
                        rw [hm] at e2
                        clear HPS hz hq0
                        rcases hz2 with hE | ⟨hE, hZ⟩
                        all_goals
                          go_wp2
                          go_quiet (fail)
                          have HLD := Lib.hid (Lvl.drewN HLV.out nq)
                          obtain ⟨wd, hwd⟩ : ∃ wd, wj.drewN nq = wd := ⟨_, rfl⟩
                          rw [hwd] at HLD
                          have d2 := HLD.out.met.cell hqn
                          rw [hm] at d2
                          have d3 := HLD.out.met.frozen q
                          have hszd := HLD.out.sz
                          rw [hwd]
                          clear hwd HLV e1 e2 e3 hbj hszj
                          go_wp2_with (first | (at_builtin; refine wpList_append_t _ rfl _ _ rfl wl.heap.size (LT L S3) _ rfl (HLD.out.A q _) wd.heap.size (tT ++ D) (T ++ [d]) rfl (lit_at wd _ _ _) HX.out (by rw [LT_len]; omega) (by rw [sizA]; omega) ?_; intro v5 w5 ht5 hg5 hat5; have HT5 := Lib.hid ht5; have HG5 := Lib.hid hg5; have HA5 := Lib.hid hat5; clear ht5 hg5 hat5) | (at_builtin; refine wpList_append_n _ rfl _ _ rfl wl.heap.size (LR L S3) _ rfl (HLD.out.B HG5.out _) w5.heap.size _ q rfl (heap_alloc_new _ _) rfl (by rw [LR_len]; omega) (by have := HG5.out.size; rw [sizA] at this; rw [World.size_alloc]; omega) ?_; intro v7 w7 ht7 hg7 hat7; have HL7 := Lib.hid (HLD.out.C (T ++ [d], q) hL3 HG5.out HA5.out HT5.out hg7 hat7 ht7); clear ht7 hg7 hat7))
                          go_roundw
                          case rel => exact ⟨j + 1, _, by go_num, by omega, HPZ, HL7⟩
                          case measure => simp [intOf]; omega
                · have hjz : j = s.size := by omega
                  have hjI : ¬ (j : Int) < (s.size : Int) := by omega
                  have HS' : Hid (sq n ds (a + (k + 1)) = .inr S3) := by
                    show _ = _
                    rw [← Nat.add_assoc, sq_inr HSK.out (by omega), HTR.out, ← HSZ.out, ← hjz]; exact HP.out
                  have HPR' : Hid (∀ i, i < L → S3.q.getD i ([], 0) = S.q.getD i ([], 0)) := fun i hi => by rw [HV3.out.2.2 i (by omega), HPR.out i hi]
                  clear HP HV3 HPR HSK
                  go_wp2
                  go_roundw
                  case rel => exact ⟨k + 1, S3, by go_num, by omega, HS', HLV, hL3, HPR'⟩
                  case measure => simp [intOf]; omega
            · have hkz : k = l := by omega
              have hkI : ¬ (k : Int) < (l : Int) := by omega
              have HS' : Hid (sq n ds L = .inr S2) := by show _ = _; rw [← hl2, ← hkz]; exact HSK.out
              have hm := HLV.out.met
              have HM := Lib.hid hm
              have hb := HLV.out.below
              have hgmC := HLV.out.gm
              have hszC := HLV.out.sz
              have hmono : w.heap.size ≤ wl.heap.size := by omega
              have HNX := Lib.hid (own_mono HLV.out.next hmono)
              have HLX := Lib.hid (own_mono HLV.out.left hmono)
              have HN1 := Lib.hid (fun e => by have := (own_lt HLV.out.next _ e).1; omega : _ ≠ some w.heap.size)
              have HN2 := Lib.hid (fun e => by have := (own_lt HLV.out.left _ e).1; omega : _ ≠ some w.heap.size)
              clear HLV HSK HPR hm HS
              go_wp2
              go_roundg (gk - l)
              case measure => omega
              case rel => exact ⟨L, S2, by omega, HS', HNX, HLX, HM, HN1, HN2, hLS, hln2, by omega, hb⟩
end Go.Proofs.Ytghjpanabphbpab
