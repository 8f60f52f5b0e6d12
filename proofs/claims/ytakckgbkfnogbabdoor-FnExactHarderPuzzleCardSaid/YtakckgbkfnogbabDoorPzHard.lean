/-
  Harder puzzles: both sides.
-/
import Derived.Test.YtakckgbkfnogbabDoorPzDrop
import Derived.Test.YtakckgbkfnogbabDoorPzInt
namespace Go.Proofs.YtakckgbkfnogbabDoor
open Go.RowKit Go.Deep
set_option maxRecDepth 100000

def slLen : Value → Nat
  | .slice _ n _ => n
  | _ => 0
def hdA (cs : List Cl) : List Cl := if isA cs then hard cs else []
theorem hdA_no {cs : List Cl} (h : isA cs = false) : hdA cs = [] := by unfold hdA; rw [if_neg (by rw [h]; simp)]
theorem hdA_yes {cs : List Cl} (h : isA cs = true) : hdA cs = hard cs := by unfold hdA; rw [if_pos h]
theorem boolDi (b : Bool) : b = false ∨ b = true := by cases b <;> simp
theorem isA_pz {cs : List Cl} (h : isA cs = true) : pzB cs = true := by
  cases hg : pzB cs with
  | true => rfl
  | false => unfold isA at h; rw [solP_no hg] at h; simp at h
theorem hdA_len (cs : List Cl) : (hdA cs).length ≤ 1000 := by
  cases h : isA cs with
  | false => rw [hdA_no h]; simp
  | true =>
    rw [hdA_yes h]
    have := pz_len (hit_inv cs (isA_pz h) cs.length (Nat.le_refl _)).2.2
    unfold hard; omega
theorem hit_yes {cs ds : List Cl} {j k : Nat} (hp : hit cs j = (ds, k)) (h : (sol (wo ds k)).length = 1) : hit cs (j + 1) = (wo ds k, k) := by
  show hst (hit cs j) = _; rw [hp]; exact if_pos h
theorem hit_no {cs ds : List Cl} {j k : Nat} (hp : hit cs j = (ds, k)) (h : ¬ (sol (wo ds k)).length = 1) : hit cs (j + 1) = (ds, k + 1) := by
  show hst (hit cs j) = _; rw [hp]; exact if_neg h
theorem solved_x (cs : List Cl) (v : Value) (x : Nat) (w : World) (hn : cs.length ≤ 1000) (hall : AllC cs) (h : RdC cs v w) (hx : (sol cs).length = x) :
    Calls Tryd.prog 32 #[v] w fun e w' => e = .returned (.bool (decide (x = 1))) ∧ Below w.heap.size w w' := by subst hx; exact solved_any cs v w hn hall h
theorem cloneC_any (cs : List Cl) (ad : Addr) (n cap : Nat) (w : World) (hl : cs.length ≤ 1000) (h : RdC cs (.slice (some ad) n cap) w) :
    Calls Tryd.prog 35 #[.slice (some ad) n cap] w fun e w' => (∃ u, e = .returned u ∧ Clu w.heap.size cs u w') ∧ Below w.heap.size w w' := by
  have HR := Lib.hid h
  have qT : ∀ (w : World) (a : Option Addr) (n c n' c' : Nat), (binOp .eql 28 (.slice a n c) (.slice none n' c')).run Tryd.prog w = .ok (.bool a.isNone) w := fun w a n c n' c' => Lib.run_eql_slice_nil w _ _ a n c n' c' Tryd.underlying28
  have HE := Lib.hid (fun (W : World) => Clu.empty W 58 rfl)
  clear h
  go_enter Tryd.func35, Tryd.ntmps35
  go_wp2_with (at_builtin; refine append_clus _ rfl _ _ rfl w.heap.size [] _ rfl (HE.out _) ad n cap cs rfl (HR.out.alloc _) (by simp; omega) (by simp only [World.size_alloc]; omega) ?_; intro v2 w2 i2 b2)
  go_ret
  exact ⟨⟨_, rfl, i2⟩, ((Below.refl _ _).alloc (Nat.le_refl _) _).trans b2⟩
set_option maxHeartbeats 8000000 in
theorem iHd_any (cs : List Cl) (ad : Addr) (n cap : Nat) (w : World) (hn : cs.length ≤ 1048576) (h : RdC cs (.slice (some ad) n cap) w) :
    Calls Tryd.prog 14 #[.agg #[.slice (some ad) n cap]] w fun e w' => (∃ a c, e = .returned (.tuple #[.agg #[.slice a (hdA cs).length c], .bool (isA cs)]) ∧ Clu w.heap.size (hdA cs) (.slice a (hdA cs).length c) w') ∧ Below w.heap.size w w' := by
  have HV := Lib.hid h
  have HR := Lib.hid (h.below (below2 w (.cells #[.slice (some ad) n cap] 30) (.cells #[.slice none 0 0] 30)))
  have HL := Lib.hid h.len
  clear h
  have HI := Lib.hid (iIs_any cs (.slice (some ad) n cap) _ hn HR.out)
  rcases boolDi (isA cs) with hs | hs
  · have HA := Lib.hid (hdA_no hs)
    have HB := Lib.hid hs
    rw [hs] at HI
    obtain ⟨q, hq⟩ : ∃ q, q = pzB cs := ⟨_, rfl⟩
    rw [← hq] at HI
    clear hs hq
    go_enter Tryd.func14, Tryd.ntmps14
    go_wp2_with (go_at_call 34; (refine HI.out.mono ?_); rintro e w1 ⟨rfl, b1⟩; obtain ⟨p0, p1⟩ := heap_pair b1; obtain ⟨e0, f0, s0⟩ := blk1 p0; obtain ⟨e1, f1, s1⟩ := blk1 p1; have z0 := (Array.getElem?_eq_some_iff.1 p0).1; have z1 := (Array.getElem?_eq_some_iff.1 p1).1; have B1 : Below w.heap.size w w1 := (below2 w _ _).trans (b1.mono (by simp only [World.size_alloc]; omega)))
    · refine bodyPost_ret (results_row_tmp rfl _ _ (w.heap.size + 1) 30 #[.slice none 0 0] (0, 0) _ rfl ?_ Tryd.underlying30 rfl (by kernel_rfl)) rfl ?_
      · have := heap_setCell_same w1 (w.heap.size + 1) 0 _ _ (.slice none 0 0) p1
        simpa using this
      · refine ⟨⟨none, 0, by rw [HA.out, HB.out]; rfl, by rw [HA.out]; exact Clu.nil _ _⟩, B1.setCell (by simp only; omega) _⟩
  · have HS := Lib.hid (hdA_yes hs)
    have HB := Lib.hid hs
    have hpz := isA_pz hs
    have HPZ := Lib.hid hpz
    rw [hs, hpz] at HI
    have hl6 := pz_len hpz
    have HQ := Lib.hid (fun W (hr : RdC cs (.slice (some ad) n cap) W) => cloneC_any cs ad n cap W (by omega) hr)
    clear hs hpz
    go_enter Tryd.func14, Tryd.ntmps14
    go_wp2_with (first
      | (go_at_call 34; (refine HI.out.mono ?_); rintro e w1 ⟨rfl, b1⟩; obtain ⟨p0, p1⟩ := heap_pair b1; obtain ⟨e0, f0, s0⟩ := blk1 p0; obtain ⟨e1, f1, s1⟩ := blk1 p1; have z0 := (Array.getElem?_eq_some_iff.1 p0).1; have z1 := (Array.getElem?_eq_some_iff.1 p1).1; have B1 : Below w.heap.size w w1 := (below2 w _ _).trans (b1.mono (by simp only [World.size_alloc]; omega)))
      | (go_at_call 35; (refine (HQ.out _ (HV.out.below B1)).mono ?_); rintro e wb ⟨⟨u, rfl, hu⟩, b2⟩; have B2 := chain B1 b2; have y1 := (b2.block _ z1).trans p1))
    have hs2 := b2.size
    have hw2 : w.heap.size + 2 ≤ w1.heap.size := by omega
    have HP1 := Lib.hid y1
    have B1 := Lib.hid B2
    have HC0 : Hid (Clu (w.heap.size + 2) cs u wb) := hu.mono (by omega)
    clear hu B2 y1 p0 p1 e0 e1 f0 f1 s0 s1 b1 b2
    go_loopw [6, 7] (fun cv kv wr => ∃ (j : Nat) (ds : List Cl) (k : Nat), j ≤ cs.length ∧ Hid (hit cs j = (ds, k)) ∧ kv = .int .i64 k ∧ Hid (Clu (w.heap.size + 2) ds cv wr) ∧ Below (w.heap.size + 2) wb wr) (fun cv kv _ => slLen cv - (intOf kv).toNat)
    case atStart => exact ⟨0, cs, 0, Nat.zero_le _, Lib.hid rfl, rfl, HC0, Below.refl _ _⟩
    case round =>
      clear HC0
      obtain ⟨j, ds, k, hj, HH, rfl, HC, hbl⟩ := hrel
      obtain ⟨wo', rfl⟩ : ∃ wo' : World, wo' = wr := ⟨_, rfl⟩
      have hsz := hbl.size
      have hinv := hit_inv cs HPZ.out j hj
      rw [HH.out] at hinv
      obtain ⟨i1, i2, i3⟩ := hinv
      have hdl := pz_len i3
      have HAD := Lib.hid (AllC.of i3)
      simp only at i1 i2
      clear i3
      have q1 := (hbl.block (w.heap.size + 1) (by omega)).trans HP1.out
      obtain ⟨e1, f1, s1⟩ := blk1 q1
      have z1 := (Array.getElem?_eq_some_iff.1 q1).1
      have BW : Below w.heap.size w wo' := B1.out.trans (hbl.mono (by omega))
      rcases Clu.form HC.out with ⟨rfl, rfl⟩ | ⟨g, cap', rfl, hg1, hg2, hg3, hq1, hq2⟩
      · have HF : Hid (([] : List Cl) = hdA cs) := by
          show _ = _; rw [HS.out]; unfold hard
          have : cs.length = j := by simp at i2; omega
          rw [this, HH.out]
        have HK : k = 0 := by simpa using i1
        subst HK
        go_wp2
        refine bodyPost_ret (results_row_tmp rfl _ _ (w.heap.size + 1) 30 #[.slice none 0 0] (0, 0) _ rfl ?_ Tryd.underlying30 rfl (by kernel_rfl)) rfl ?_
        · have := heap_setCell_same wo' (w.heap.size + 1) 0 _ _ (.slice none 0 0) q1
          simpa using this
        · refine ⟨⟨none, 0, by rw [← HF.out, HB.out]; rfl, by rw [← HF.out]; exact Clu.nil _ _⟩, BW.setCell (by simp only; omega) _⟩
      · clear hq1 hq2
        obtain ⟨m, hm⟩ : ∃ m, ds.length = m := ⟨_, rfl⟩
        have HM := Lib.hid hm
        rw [hm] at i1 i2 hdl hg3
        have HI2 := Lib.hid i2
        clear i2
        have hrd := HC.out.rd
        rw [hm] at hrd
        have hcu := HC.out
        rw [hm] at hcu
        have HCU := Lib.hid hcu
        clear hcu
        rw [hm]
        by_cases hlt : k < m
        · have hkI : (k : Int) < (m : Int) := by omega
          have hkd : k < ds.length := by rw [hm]; exact hlt
          have hwl := wo_len ds k hkd
          have HR2 := Lib.hid hrd
          have HWK := Lib.hid (fun (W : World) (hr : RdC ds (.slice (some ⟨g, 0, none⟩) m cap') W) => without_any ds ⟨g, 0, none⟩ m cap' k (k : Int) W rfl hkd (by rw [hm]; omega) hr)
          obtain ⟨x, hx⟩ : ∃ x, (sol (wo ds k)).length = x := ⟨_, rfl⟩
          have HCT := Lib.hid (fun (u : Value) (W : World) (hr : RdC (wo ds k) u W) => count_x (wo ds k) u x W (by omega) (HAD.out.wo k) hr hx)
          have hwm : (wo ds k).length = m - 1 := by omega
          have HWM := Lib.hid hwm
          rw [hm] at hwl
          clear hm hrd hkd hwl hwm
          by_cases hx1 : x = 1
          ·
            have HE := Lib.hid (hit_yes HH.out (by rw [hx]; exact hx1))
            have hxI : ((x : Int) == 1) = true := by rw [hx1]; rfl
            clear hx hx1
            go_wp2_with (first
              | (go_at_call 36; (refine (HWK.out _ (HR2.out)).mono ?_); rintro e w2 ⟨⟨u, rfl, hu⟩, b2⟩; obtain ⟨au, cu, rfl⟩ := hu.val; have hu2 := hu.rd)
              | (go_at_call 29; (refine (HCT.out _ _ hu2).mono ?_); rintro e w3 ⟨rfl, b3⟩))
            have hs2 := b2.size
            have B3 := (hbl.trans (b2.mono (by omega))).trans (b3.mono (by omega))
            go_roundw
            case rel => exact ⟨j + 1, wo ds k, k, by have := HI2.out; omega, HE, rfl, by show Clu _ _ _ _; exact (hu.below b3).mono (by omega), B3⟩
            case measure => have := HI2.out; have := HWM.out; simp [intOf, slLen]; omega
          ·
            have HE := Lib.hid (hit_no HH.out (by rw [hx]; exact hx1))
            have hxI : ((x : Int) == 1) = false := by rw [beq_eq_false_iff_ne]; omega
            clear hx hx1
            go_wp2_with (first
              | (go_at_call 36; (refine (HWK.out _ (HR2.out)).mono ?_); rintro e w2 ⟨⟨u, rfl, hu⟩, b2⟩; obtain ⟨au, cu, rfl⟩ := hu.val; have hu2 := hu.rd)
              | (go_at_call 29; (refine (HCT.out _ _ hu2).mono ?_); rintro e w3 ⟨rfl, b3⟩))
            have hs2 := b2.size
            have B3 := (hbl.trans (b2.mono (by omega))).trans (b3.mono (by omega))
            go_roundw
            case rel => exact ⟨j + 1, ds, k + 1, by have := HI2.out; omega, HE, by go_num, by show Clu _ _ _ _; exact (HCU.out.below b2).below b3, B3⟩
            case measure => have := HI2.out; have := HWM.out; simp [intOf, slLen]; omega
        · have HF : Hid (ds = hdA cs) := by
            show _ = _; rw [HS.out]; unfold hard
            have : cs.length = j := by have := HI2.out; omega
            rw [this, HH.out]
          have hkI : ¬ (k : Int) < (m : Int) := by omega
          clear hm hrd
          go_wp2
          refine bodyPost_ret (results_row_tmp rfl _ _ (w.heap.size + 1) 30 #[.slice (some ⟨g, 0, none⟩) m cap'] (0, 0) _ rfl ?_ Tryd.underlying30 rfl (by kernel_rfl)) rfl ?_
          · have := heap_setCell_same wo' (w.heap.size + 1) 0 _ _ (.slice (some ⟨g, 0, none⟩) m cap') q1
            simpa using this
          · refine ⟨⟨some ⟨g, 0, none⟩, cap', by rw [← HF.out, HB.out, HM.out]; rfl, ?_⟩, BW.setCell (by simp only; omega) _⟩
            rw [← HF.out, HM.out]
            exact (HCU.out.low (by omega) _ _).mono (by omega)

set_option maxHeartbeats 8000000 in
theorem sHd_any (cs : List Cl) (ad : Addr) (n cap : Nat) (w : World) (hn : cs.length ≤ 1048576) (h : RdC cs (.slice (some ad) n cap) w) :
    Calls Tryd.prog 13 #[.agg #[.slice (some ad) n cap]] w fun e w' => (∃ a c, e = .returned (.tuple #[.agg #[.slice a (hdA cs).length c], .bool (isA cs)]) ∧ Clu w.heap.size (hdA cs) (.slice a (hdA cs).length c) w') ∧ Below w.heap.size w w' := by
  have HV := Lib.hid h
  have HR := Lib.hid (h.below (below2 w (.cells #[.slice (some ad) n cap] 30) (.cells #[.slice none 0 0] 30)))
  have HL := Lib.hid h.len
  clear h
  cases hg : pzB cs with
  | false =>
    have hs : isA cs = false := by
      cases h : isA cs with
      | false => rfl
      | true => rw [isA_pz h] at hg; cases hg
    have HG := Lib.hid hg
    have HA := Lib.hid (hdA_no hs)
    have HB := Lib.hid hs
    clear hs hg
    go_enter Tryd.func13, Tryd.ntmps13
    go_wp2_with (go_at_call 24; (with_reducible refine (pzGood_b cs false _ _ hn HR.out HG.out).mono ?_); rintro e w1 ⟨rfl, b1⟩; obtain ⟨p0, p1⟩ := heap_pair b1; obtain ⟨e0, f0, s0⟩ := blk1 p0; obtain ⟨e1, f1, s1⟩ := blk1 p1; have z0 := (Array.getElem?_eq_some_iff.1 p0).1; have z1 := (Array.getElem?_eq_some_iff.1 p1).1; have B1 : Below w.heap.size w w1 := (below2 w _ _).trans (b1.mono (by simp only [World.size_alloc]; omega)))
    · refine bodyPost_ret (results_row_tmp rfl _ _ (w.heap.size + 1) 30 #[.slice none 0 0] (0, 0) _ rfl ?_ Tryd.underlying30 rfl (by kernel_rfl)) rfl ?_
      · have := heap_setCell_same w1 (w.heap.size + 1) 0 _ _ (.slice none 0 0) p1
        simpa using this
      · refine ⟨⟨none, 0, by rw [HA.out, HB.out]; rfl, by rw [HA.out]; exact Clu.nil _ _⟩, B1.setCell (by simp only; omega) _⟩
  | true =>
    have HG := Lib.hid hg
    have HPZ := Lib.hid hg
    have hl6 := pz_len hg
    have hall := AllC.of hg
    have HX : Hid (decide ((sol cs).length = 1) = isA cs) := by show _ = _; unfold isA; rw [solP_yes hg]
    have HQ := Lib.hid (fun W (hr : RdC cs (.slice (some ad) n cap) W) => solved_any cs _ W (by omega) hall hr)
    rw [HX.out] at HQ
    rcases boolDi (isA cs) with hs | hs
    · have HA := Lib.hid (hdA_no hs)
      have HB := Lib.hid hs
      rw [hs] at HQ
      clear hs hg hall
      go_enter Tryd.func13, Tryd.ntmps13
      go_wp2_with (first
        | (go_at_call 24; (with_reducible refine (pzGood_b cs true _ _ hn HR.out HG.out).mono ?_); rintro e wa ⟨rfl, ba⟩; obtain ⟨p0, p1⟩ := heap_pair ba; obtain ⟨e0, f0, s0⟩ := blk1 p0; obtain ⟨e1, f1, s1⟩ := blk1 p1; have z0 := (Array.getElem?_eq_some_iff.1 p0).1; have z1 := (Array.getElem?_eq_some_iff.1 p1).1; have Ba : Below w.heap.size w wa := (below2 w _ _).trans (ba.mono (by simp only [World.size_alloc]; omega)))
        | (go_at_call 32; (refine (HQ.out _ (HV.out.below Ba)).mono ?_); rintro e w1 ⟨rfl, b1⟩; have B1 := chain Ba b1; have p1 := (b1.block _ z1).trans p1; obtain ⟨e1, f1, s1⟩ := blk1 p1; have z1 := (Array.getElem?_eq_some_iff.1 p1).1))
      · refine bodyPost_ret (results_row_tmp rfl _ _ (w.heap.size + 1) 30 #[.slice none 0 0] (0, 0) _ rfl ?_ Tryd.underlying30 rfl (by kernel_rfl)) rfl ?_
        · have := heap_setCell_same w1 (w.heap.size + 1) 0 _ _ (.slice none 0 0) p1
          simpa using this
        · refine ⟨⟨none, 0, by rw [HA.out, HB.out]; rfl, by rw [HA.out]; exact Clu.nil _ _⟩, B1.setCell (by simp only; omega) _⟩
    · have HS := Lib.hid (hdA_yes hs)
      have HB := Lib.hid hs
      rw [hs] at HQ
      have HE := Lib.hid (fun (W : World) => Clu.empty W 58 rfl)
      clear hs hg hall
      go_enter Tryd.func13, Tryd.ntmps13
      go_wp2_with (first
        | (go_at_call 24; (with_reducible refine (pzGood_b cs true _ _ hn HR.out HG.out).mono ?_); rintro e wa ⟨rfl, ba⟩; obtain ⟨p0, p1⟩ := heap_pair ba; obtain ⟨e0, f0, s0⟩ := blk1 p0; obtain ⟨e1, f1, s1⟩ := blk1 p1; have z0 := (Array.getElem?_eq_some_iff.1 p0).1; have z1 := (Array.getElem?_eq_some_iff.1 p1).1; have Ba : Below w.heap.size w wa := (below2 w _ _).trans (ba.mono (by simp only [World.size_alloc]; omega)))
        | (go_at_call 32; (refine (HQ.out _ (HV.out.below Ba)).mono ?_); rintro e w1 ⟨rfl, b1⟩; have B1 := chain Ba b1; have p0 := (b1.block _ z0).trans p0; have p1 := (b1.block _ z1).trans p1; obtain ⟨e0, f0, s0⟩ := blk1 p0; obtain ⟨e1, f1, s1⟩ := blk1 p1; have z0 := (Array.getElem?_eq_some_iff.1 p0).1; have z1 := (Array.getElem?_eq_some_iff.1 p1).1; have A1 := HV.out.below B1)
        | (at_builtin; refine append_clus _ rfl _ _ rfl w1.heap.size [] _ rfl (HE.out _) ad n cap cs rfl (A1.alloc _) (by simp; omega) (by simp only [World.size_alloc]; omega) ?_; intro u wb hu b2))
      have b2' : Below w1.heap.size w1 wb := ((Below.refl _ _).alloc (Nat.le_refl _) _).trans b2
      have B2 := chain B1 b2'
      have y1 := (b2'.block _ z1).trans p1
      have hs2 := b2'.size
      have hw2 : w.heap.size + 2 ≤ w1.heap.size := by omega
      have HP1 := Lib.hid y1
      have HC0 : Hid (Clu (w.heap.size + 2) cs u wb) := hu.mono (by omega)
      clear hu B1 A1
      have B1 := Lib.hid B2
      clear B2 y1 p0 p1 e0 e1 f0 f1 s0 s1 b1 b2 b2'
      go_loopw [4, 5] (fun cv kv wr => ∃ (j : Nat) (ds : List Cl) (k : Nat), j ≤ cs.length ∧ Hid (hit cs j = (ds, k)) ∧ kv = .int .i64 k ∧ Hid (Clu (w.heap.size + 2) ds cv wr) ∧ Below (w.heap.size + 2) wb wr) (fun cv kv _ => slLen cv - (intOf kv).toNat)
      case atStart => exact ⟨0, cs, 0, Nat.zero_le _, Lib.hid rfl, rfl, HC0, Below.refl _ _⟩
      case round =>
        clear HC0
        obtain ⟨j, ds, k, hj, HH, rfl, HC, hbl⟩ := hrel
        obtain ⟨wo', rfl⟩ : ∃ wo' : World, wo' = wr := ⟨_, rfl⟩
        have hsz := hbl.size
        have hinv := hit_inv cs HPZ.out j hj
        rw [HH.out] at hinv
        obtain ⟨i1, i2, i3⟩ := hinv
        have hdl := pz_len i3
        have HAD := Lib.hid (AllC.of i3)
        simp only at i1 i2
        clear i3
        have q1 := (hbl.block (w.heap.size + 1) (by omega)).trans HP1.out
        obtain ⟨e1, f1, s1⟩ := blk1 q1
        have z1 := (Array.getElem?_eq_some_iff.1 q1).1
        have BW : Below w.heap.size w wo' := B1.out.trans (hbl.mono (by omega))
        rcases Clu.form HC.out with ⟨rfl, rfl⟩ | ⟨g, cap', rfl, hg1, hg2, hg3, hq1, hq2⟩
        · have HF : Hid (([] : List Cl) = hdA cs) := by
            show _ = _; rw [HS.out]; unfold hard
            have : cs.length = j := by simp at i2; omega
            rw [this, HH.out]
          have HK : k = 0 := by simpa using i1
          subst HK
          go_wp2
          refine bodyPost_ret (results_row_tmp rfl _ _ (w.heap.size + 1) 30 #[.slice none 0 0] (0, 0) _ rfl ?_ Tryd.underlying30 rfl (by kernel_rfl)) rfl ?_
          · have := heap_setCell_same wo' (w.heap.size + 1) 0 _ _ (.slice none 0 0) q1
            simpa using this
          · refine ⟨⟨none, 0, by rw [← HF.out, HB.out]; rfl, by rw [← HF.out]; exact Clu.nil _ _⟩, BW.setCell (by simp only; omega) _⟩
        · clear hq1 hq2
          obtain ⟨m, hm⟩ : ∃ m, ds.length = m := ⟨_, rfl⟩
          have HM := Lib.hid hm
          rw [hm] at i1 i2 hdl hg3
          have HI2 := Lib.hid i2
          clear i2
          have hrd := HC.out.rd
          rw [hm] at hrd
          have hcu := HC.out
          rw [hm] at hcu
          have HCU := Lib.hid hcu
          clear hcu
          rw [hm]
          by_cases hlt : k < m
          · have hkI : (k : Int) < (m : Int) := by omega
            have hkd : k < ds.length := by rw [hm]; exact hlt
            have hwl := wo_len ds k hkd
            have HR2 := Lib.hid hrd
            have HWK := Lib.hid (fun (W : World) (hr : RdC ds (.slice (some ⟨g, 0, none⟩) m cap') W) => pzWo_any ds ⟨g, 0, none⟩ m cap' k (k : Int) W rfl hkd (by rw [hm]; omega) hr)
            obtain ⟨x, hx⟩ : ∃ x, (sol (wo ds k)).length = x := ⟨_, rfl⟩
            have HCT := Lib.hid (fun (u : Value) (W : World) (hr : RdC (wo ds k) u W) => solved_x (wo ds k) u x W (by omega) (HAD.out.wo k) hr hx)
            have hwm : (wo ds k).length = m - 1 := by omega
            have HWM := Lib.hid hwm
            rw [hm] at hwl
            clear hm hrd hkd hwl hwm
            by_cases hx1 : x = 1
            ·
              have HE := Lib.hid (hit_yes HH.out (by rw [hx]; exact hx1))
              have hxI : decide (x = 1) = true := decide_eq_true hx1
              clear hx hx1
              go_wp2_with (first
                | (go_at_call 33; (refine (HWK.out _ (HR2.out)).mono ?_); rintro e w2 ⟨⟨u, rfl, hu⟩, b2⟩; obtain ⟨au, cu, rfl⟩ := hu.val; have hu2 := hu.rd)
                | (go_at_call 32; (refine (HCT.out _ _ hu2).mono ?_); rintro e w3 ⟨rfl, b3⟩))
              have hs2 := b2.size
              have B3 := (hbl.trans (b2.mono (by omega))).trans (b3.mono (by omega))
              go_roundw
              case rel => exact ⟨j + 1, wo ds k, k, by have := HI2.out; omega, HE, rfl, by show Clu _ _ _ _; exact (hu.below b3).mono (by omega), B3⟩
              case measure => have := HI2.out; have := HWM.out; simp [intOf, slLen]; omega
            ·
              have HE := Lib.hid (hit_no HH.out (by rw [hx]; exact hx1))
              have hxI : decide (x = 1) = false := decide_eq_false hx1
              clear hx hx1
              go_wp2_with (first
                | (go_at_call 33; (refine (HWK.out _ (HR2.out)).mono ?_); rintro e w2 ⟨⟨u, rfl, hu⟩, b2⟩; obtain ⟨au, cu, rfl⟩ := hu.val; have hu2 := hu.rd)
                | (go_at_call 32; (refine (HCT.out _ _ hu2).mono ?_); rintro e w3 ⟨rfl, b3⟩))
              have hs2 := b2.size
              have B3 := (hbl.trans (b2.mono (by omega))).trans (b3.mono (by omega))
              go_roundw
              case rel => exact ⟨j + 1, ds, k + 1, by have := HI2.out; omega, HE, by go_num, by show Clu _ _ _ _; exact (HCU.out.below b2).below b3, B3⟩
              case measure => have := HI2.out; have := HWM.out; simp [intOf, slLen]; omega
          · have HF : Hid (ds = hdA cs) := by
              show _ = _; rw [HS.out]; unfold hard
              have : cs.length = j := by have := HI2.out; omega
              rw [this, HH.out]
            have hkI : ¬ (k : Int) < (m : Int) := by omega
            clear hm hrd
            go_wp2
            refine bodyPost_ret (results_row_tmp rfl _ _ (w.heap.size + 1) 30 #[.slice (some ⟨g, 0, none⟩) m cap'] (0, 0) _ rfl ?_ Tryd.underlying30 rfl (by kernel_rfl)) rfl ?_
            · have := heap_setCell_same wo' (w.heap.size + 1) 0 _ _ (.slice (some ⟨g, 0, none⟩) m cap') q1
              simpa using this
            · refine ⟨⟨some ⟨g, 0, none⟩, cap', by rw [← HF.out, HB.out, HM.out]; rfl, ?_⟩, BW.setCell (by simp only; omega) _⟩
              rw [← HF.out, HM.out]
              exact (HCU.out.low (by omega) _ _).mono (by omega)

end Go.Proofs.YtakckgbkfnogbabDoor
