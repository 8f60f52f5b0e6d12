/-
  The model's count of plates that begin with a text: the walk where it counts.
-/
import Derived.Test.YtaomcimmhlpflaaDoorPlFr
import Derived.Deep.LoopGhost
import Derived.Deep.RegionHeld3
namespace Go.Proofs.YtaomcimmhlpflaaDoor
open Go.RowKit

theorem fS_ascii (p c : UInt8) (h : c ∈ fS p) : c.toNat < 128 := by
  unfold fS at h
  have hd : ∀ c ∈ dgS, c.toNat < 128 := by decide
  have hl : ∀ c ∈ ltS, c.toNat < 128 := by decide
  split at h
  · exact hd c h
  · exact hl c h

theorem IRow.gb {w w' : World} {g n r : Nat} {f : Nat → Int} (h : IRow w g n f) (k : w.grownBy w' (some r)) (hne : g ≠ r) : IRow w' g n f := World.rowIs.of_block h (k.block g h.lt (fun e => by cases e; exact hne rfl))
theorem below_drwY {B : Nat} {w w' : World} (h : Below B w w') : Below B w w'.drew := ⟨h.os, h.tape, h.output, h.size, fun i hi => h.block i hi⟩
theorem ext1Y (s : ByteArray) (k : Nat) (h : k < s.size) : (s.extract k (k + 1)).data.toList = [s[k]] := by
  rw [Lib.extract_data, show k + 1 - k = 1 by omega]
  rw [List.drop_eq_getElem_cons (by simpa using h)]
  rfl
set_option maxRecDepth 100000 in
set_option maxHeartbeats 4000000 in
theorem plFrom_yes (P B t : ByteArray) (ts : List (List UInt8)) (v : Value) (w : World) (hPs : P.size ≤ 8) (hBs : B.size ≤ 1048576) (ht0 : t.size ≤ 1048576) (hpat : P.data.toList.all patC = true) (hn : ts.length ≤ 3) (ht : ∀ i, i < ts.length → (ts.getD i []).length ≤ 4) (h : Rd ts v w)
    (ha : ∀ i (h : i < t.size), (t[i]'h).toNat < 128) (hfit : fitsB P.data.toList B.data.toList t.data.toList = true) (hfree : Free ts t.data.toList) (hasc : ∀ x ∈ ts, ∀ b ∈ x, b.toNat < 128) :
    Calls Tryd.prog 46 #[.agg #[.string P, .string B, v], .string t] w fun e w' => e = .returned (.int .i64 (gF P.data.toList B.data.toList ts t.size (stt ts t.data.toList) : Nat)) ∧ Below w.heap.size w w' := by
  obtain ⟨i0, hi, hz0, hz1, hz2⟩ := info_parts (show (Tryd.prog.info? 3).map (fun i => (i.zero, i.size, i.bytes)) = some (some (.int .i64 0), 1, 8) by kernel_rfl)
  have HF := Lib.hid (fun (v' : Value) (W : World) => plFits_any P B t v' W (by omega) hBs ht0 hpat)
  have HV := Lib.hid h
  have HC := Lib.hid (fun (W : World) (hW : Below w.heap.size w W) => plClean_any P B t ts v W ht0 (by omega) (fun i hi => Nat.le_trans (ht i hi) (by omega)) (h.below hW))
  have HST := Lib.hid (fun (W : World) (hW : Below w.heap.size w W) => plStates_any P B ts v W hn ht (h.below hW))
  have HTT := Lib.hid (fun (W : World) (hW : Below w.heap.size w W) => plState_any P B t ts v W hn ht ht0 ha (h.below hW))
  have HTn := Lib.hid hn
  have HAW := Lib.hid hasc
  have HCC := Lib.hid (fun (x : ByteArray) (hx : x.size ≤ 1048576) (W : World) (hW : Below w.heap.size w W) => plClean_any P B x ts v W hx (by omega) (fun i hi => Nat.le_trans (ht i hi) (by omega)) (h.below hW))
  have HSS := Lib.hid (fun (x : ByteArray) (hx : x.size ≤ 1048576) (hx2 : ∀ i (h : i < x.size), (x[i]'h).toNat < 128) (W : World) (hW : Below w.heap.size w W) => plState_any P B x ts v W hn ht hx hx2 (h.below hW))
  have HT4 : Hid (∀ u, beg ts u = true → u.length < 4) := fun u hu => by
    obtain ⟨x, hx, _, hl⟩ := (beg_iff ts u).1 hu
    obtain ⟨i, hi', rfl⟩ := List.getElem_of_mem hx
    have := ht i hi'
    rw [List.getD_eq_getElem?_getD, List.getElem?_eq_getElem hi'] at this
    simp only [Option.getD_some] at this
    omega
  have HPAT := Lib.hid hpat
  have HPL : Hid (P.data.toList.length = P.size) := by show _ = _; simp
  have HTL : Hid (t.size ≤ P.size) := by
    show _ ≤ _
    unfold fitsB at hfit
    simp only [Bool.and_eq_true, decide_eq_true_eq] at hfit
    have := hfit.1
    simpa using this
  rw [hfit] at HF
  rw [decide_eq_true hfree] at HC
  obtain ⟨a, cap, rfl, hx⟩ := h
  clear hx
  obtain ⟨m, hm⟩ : ∃ m, m = ts.length := ⟨_, rfl⟩
  rw [← hm] at HC HST HTT HCC HSS ⊢
  have HM := Lib.hid hm
  clear hm hfree hfit hn ht ha hpat hasc
  have F0 := heap_alloc_last w (.cells #[.string P, .string B, .slice a m cap] 26)
  have H0 : Below w.heap.size w (w.alloc (.cells #[.string P, .string B, .slice a m cap] 26)) := by go_grown
  go_enter Tryd.func46, Tryd.ntmps46
  go_wp2_with fail
  refine (HF.out _ _).mono ?_
  rintro e w1 ⟨rfl, b1⟩
  have hb1 := chain H0 b1
  have F1 := (b1.block w.heap.size (by simp)).trans F0
  have hl1 : w.heap.size < w1.heap.size := (Array.getElem?_eq_some_iff.1 F1).1
  have HB1 := Lib.hid hb1
  have HF1 := Lib.hid F1
  obtain ⟨b0, hb0⟩ : ∃ b0, b0 = w.heap.size := ⟨_, rfl⟩
  rw [← hb0] at HF1 hl1 ⊢
  have HB0 : Hid (w.heap.size ≤ b0) := by show _ ≤ _; omega
  have d0 := Lib.cell_of_heap HF1.out 0
  have d1 := Lib.cell_of_heap HF1.out 1
  have d2 := Lib.cell_of_heap HF1.out 2
  simp at d0 d1 d2
  clear F0 F1 H0 b1 hb1 hb0
  go_wp2_with fail
  refine (HC.out _ HB1.out).mono ?_
  rintro e w2 ⟨rfl, b2⟩
  have hb2 := chain HB1.out b2
  have HF2 := Lib.hid ((b2.block b0 hl1).trans HF1.out)
  have HB2 := Lib.hid hb2
  have d0 := Lib.cell_of_heap HF2.out 0
  have d1 := Lib.cell_of_heap HF2.out 1
  have d2 := Lib.cell_of_heap HF2.out 2
  simp at d0 d1 d2
  have hl2 : b0 < w2.heap.size := (Array.getElem?_eq_some_iff.1 HF2.out).1
  clear b2 hb2 hl1
  go_wp2_with fail
  refine (HST.out _ HB2.out).mono ?_
  rintro e w3 ⟨⟨us, uv, rfl, hus, hsp⟩, b3⟩
  have HF3 := Lib.hid ((b3.block b0 hl2).trans HF2.out)
  have HB3 := Lib.hid (chain HB2.out b3)
  have HSP := Lib.hid hsp
  have HSPT : Hid (StsP ts ts.length 1 us) := by show StsP _ _ _ _; have := hsp; rw [HM.out] at this; exact this
  have HUS := Lib.hid hus
  have hlen : us.length ≤ 13 := by have := hsp.len; have := HTn.out; have := HM.out; omega
  have hpos : 0 < us.length := by have := hsp.nil; exact List.length_pos_of_mem this
  obtain ⟨gs, cs, rfl, hgs⟩ : ∃ gs cs, uv = .slice (some ⟨gs, 0, none⟩) us.length cs ∧ gs < w3.heap.size := by
    rcases hus.form with ⟨_, h0⟩ | ⟨g, c, hv, _, hg, _⟩
    · omega
    · exact ⟨g, c, hv, hg⟩
  obtain ⟨n, hnn⟩ : ∃ n, n = us.length := ⟨_, rfl⟩
  have HN := Lib.hid hnn
  rw [← hnn] at hlen hpos HUS ⊢
  clear hus hsp hnn b3 hl2
  go_wp2_with (refine wpList_make_rowL _ rfl _ _ 81 rfl 3 i0 (.int .i64 0) Tryd.underlying81 hi hz0 hz1 rfl .i64 .i64 _ _ n rfl rfl (by omega) (by omega) (by rw [hz2]; omega) (by omega) ?_)
  have hr := IRow.made w3 n
  have hs3 := HB3.out.size
  have hbl := (Array.getElem?_eq_some_iff.1 HF3.out).1
  obtain ⟨gw, hgw⟩ : ∃ gw, gw = w3.heap.size := ⟨_, rfl⟩
  obtain ⟨W0, hW0⟩ : ∃ W0, W0 = w3.alloc (.cells (madeCells #[.int .i64 0] n) 3) := ⟨_, rfl⟩
  rw [← hW0, ← hgw] at hr
  have HR0 : Hid (IRow W0 gw n (fun j => if j < 0 then 1 else 0)) := by
    show IRow _ _ _ _
    exact hr.same (fun j _ => by rw [if_neg (by omega)])
  have HW0 : Hid (gw < W0.heap.size) := hr.lt
  have HWG : Hid (w.heap.size ≤ gw) := by show _ ≤ _; omega
  have HWW : Hid (∀ W, Below gw W0 W → Below w.heap.size w W) := fun W hW => by
    have h0 : Below w.heap.size w W0 := by rw [hW0]; exact HB3.out.alloc hs3 _
    exact h0.trans (hW.mono HWG.out)
  have HBX : Hid (∀ W, Below gw W0 W → W.heap[b0]? = some (.cells #[.string P, .string B, .slice a m cap] 26 (0, 0))) := fun W hW => by
    rw [hW.block b0 (by omega), hW0, Lib.alloc_old _ _ _ hbl]; exact HF3.out
  have HUX : Hid (∀ W, Below gw W0 W → Rd us (.slice (some ⟨gs, 0, none⟩) n cs) W) := fun W hW => by
    obtain ⟨a', c', hv, hc⟩ := HUS.out.rd
    refine ⟨a', c', hv, fun i hi => ?_⟩
    obtain ⟨g, o, k1, k2, k3⟩ := hc i hi
    have hs := hW.size
    have hw0 : gw < W0.heap.size := hr.lt
    refine ⟨g, o, k1, by omega, ?_⟩
    rw [hW.cell (p := ⟨g, o + i, none⟩) (by show g < gw; omega), hW0, World.cell?_of_block (w := w3) (Lib.alloc_old _ _ _ k2)]
    exact k3
  have HBG : Hid (b0 < gw) := by show _ < _; omega
  rw [← hgw, ← hW0]
  clear hr hgw hs3 hgs hbl hW0
  go_loopw [32] (fun kv wr => ∃ k : Nat, k ≤ n ∧ kv = .int .i64 k ∧ Hid (IRow wr gw n (fun j => if j < k then 1 else 0)) ∧ Below gw W0 wr) (fun kv _ => n - (intOf kv).toNat)
  case atStart => exact ⟨0, by omega, rfl, HR0, Below.refl _ _⟩
  case round =>
    obtain ⟨k, hk, rfl, HK, hb⟩ := hrel
    obtain ⟨wo, rfl⟩ : ∃ wo : World, wo = wr := ⟨_, rfl⟩
    by_cases hlt : k < n
    · have c1 := HK.out.cell hlt
      have z1 := HK.out.frozen k
      go_wp2
      go_roundw
      case rel =>
        have HF : ∀ j : Nat, (if j < k + 1 then (1 : Int) else 0) = if j = k then 1 else (if j < k then 1 else 0) := fun j => by
          by_cases hj : j = k
          · rw [if_pos (by omega), if_pos hj]
          · rw [if_neg hj]
            by_cases hj2 : j < k
            · rw [if_pos hj2, if_pos (by omega)]
            · rw [if_neg hj2, if_neg (by omega)]
        exact ⟨k + 1, by omega, by go_num, by show IRow _ _ _ _; exact HK.out.put k 1 HF, hb.setCell (Nat.le_refl _) _⟩
      case measure => simp [intOf]; omega
    · have d0 := Lib.cell_of_heap (HBX.out _ hb) 0
      have d1 := Lib.cell_of_heap (HBX.out _ hb) 1
      have d2 := Lib.cell_of_heap (HBX.out _ hb) 2
      simp at d0 d1 d2
      have HR1 : Hid (IRow wo gw n (fun i => ((gF P.data.toList B.data.toList ts P.size (us.getD i []) : Nat) : Int))) := by
        show IRow _ _ _ _
        exact HK.out.same (fun j hj => by rw [if_pos (by omega), ← HPL.out, gF_end]; rfl)
      have HB1' := Lib.hid hb
      have hP0 : (0 : Int) ≤ (P.size : Int) := by omega
      clear hk
      go_wp2
      clear d0 d1 d2 hlt
      go_loopw [6, 8] (fun yv av wr => ∃ (K g : Nat), K ≤ P.size ∧ t.size ≤ K ∧ av = .int .i64 ((K : Int) - 1) ∧ yv = .slice (some ⟨g, 0, none⟩) n n ∧ gw ≤ g ∧ Hid (IRow wr g n (fun i => ((gF P.data.toList B.data.toList ts K (us.getD i []) : Nat) : Int))) ∧ Below gw W0 wr) (fun _ av _ => (intOf av + 1).toNat)
      case atStart => exact ⟨P.size, gw, by omega, HTL.out, rfl, rfl, Nat.le_refl _, HR1, HB1'.out⟩
      case round =>
        clear HK hb HR1 HB1'
        obtain ⟨K, g, hK1, hK2, rfl, rfl, hg, HK, hb⟩ := hrel
        obtain ⟨wq, rfl⟩ : ∃ wq : World, wq = wr := ⟨_, rfl⟩
        have d0 := Lib.cell_of_heap (HBX.out _ hb) 0
        have d1 := Lib.cell_of_heap (HBX.out _ hb) 1
        have d2 := Lib.cell_of_heap (HBX.out _ hb) 2
        simp at d0 d1 d2
        by_cases hlt : t.size < K
        · obtain ⟨K', rfl⟩ : ∃ K', K = K' + 1 := ⟨K - 1, by omega⟩
          have e1 : ((K' + 1 : Nat) : Int) - 1 = (K' : Int) := by omega
          rw [e1]
          have hKP : K' < P.size := by omega
          have hg2 := HK.out.lt
          have hKt : (t.size : Int) ≤ (K' : Int) := by omega
          have HKK := Lib.hid HK.out
          have HKb := Lib.hid hb
          have hpc := patC_get P K' hKP HPAT.out
          have hgd : P.data.toList.getD K' 0 = P[K'] := by rw [List.getD_eq_getElem?_getD, List.getElem?_eq_getElem (by simpa using hKP)]; rfl
          have HSG : Hid (fS (P.data.toList.getD K' 0) = if (P[K'].toNat : Int) = 76 then ltS else dgS) := by
            show _ = _
            unfold fS
            rw [hgd]
            rcases hpc with h | h
            · rw [if_pos h, if_neg (show ¬ P[K'] = 68 from fun e => by have := (p68 _).1 e; omega)]
            · rw [if_neg (show ¬ (P[K'].toNat : Int) = 76 by omega), if_pos (show P[K'] = 68 from (p68 _).2 h)]
          clear hgd HK e1
          by_cases hp : (P[K'].toNat : Int) = 76
          all_goals
            first | rw [if_pos hp] at HSG | rw [if_neg hp] at HSG
            go_wp2_with (refine wpList_make_rowL _ rfl _ _ 81 rfl 3 i0 (.int .i64 0) Tryd.underlying81 hi hz0 hz1 rfl .i64 .i64 _ _ n rfl rfl (by omega) (by omega) (by rw [hz2]; omega) (by omega) ?_)
            have hrn := IRow.made wq n
            obtain ⟨gn, hgn⟩ : ∃ gn, gn = wq.heap.size := ⟨_, rfl⟩
            obtain ⟨W5, hW5⟩ : ∃ W5, W5 = wq.alloc (.cells (madeCells #[.int .i64 0] n) 3) := ⟨_, rfl⟩
            have hq5 := HKb.out.size
            have hw05 := HW0.out
            have hb5 : Below gw W0 W5 := by rw [hW5]; exact HKb.out.alloc (by omega) _
            have HG5 : Hid (IRow W5 g n (fun i => ((gF P.data.toList B.data.toList ts (K' + 1) (us.getD i []) : Nat) : Int))) := by show IRow _ _ _ _; rw [hW5]; exact HKK.out.alloc _
            rw [← hW5, ← hgn] at hrn
            have HN5 := Lib.hid hrn
            have HNE : Hid (g ≠ gn ∧ gw < gn) := by show _ ∧ _; omega
            have HU5 := Lib.hid (HUX.out _ hb5)
            rw [← hgn, ← hW5]
            clear hrn hgn hW5 hq5 hw05 d0 d1 d2
            first | (obtain ⟨sg, hsg⟩ : ∃ sg : ByteArray, sg = ⟨#[65, 66, 67, 68, 69, 70, 71, 72, 73, 74, 75, 76, 77, 78, 79, 80, 81, 82, 83, 84, 85, 86, 87, 88, 89, 90]⟩ := ⟨_, rfl⟩; rw [← hsg]) | (obtain ⟨sg, hsg⟩ : ∃ sg : ByteArray, sg = ⟨#[48, 49, 50, 51, 52, 53, 54, 55, 56, 57]⟩ := ⟨_, rfl⟩; rw [← hsg])
            have HSL : Hid (sg.data.toList = fS (P.data.toList.getD K' 0)) := by show _ = _; rw [HSG.out, hsg]; rfl
            have hsl : sg.size ≤ 26 := by have := fS_len (P.data.toList.getD K' 0); rw [← HSL.out] at this; simpa using this
            have HSA : Hid (∀ j (hj : j < sg.size), (sg[j]'hj).toNat < 128) := fun j hj => by
              have hm1 : sg[j]'hj ∈ sg.data.toList := by
                have : sg[j]'hj = sg.data.toList[j]'(by simpa using hj) := by simp [ByteArray.getElem_eq_getElem_data]
                rw [this]; exact List.getElem_mem _
              rw [HSL.out] at hm1
              exact fS_ascii _ _ hm1
            clear hsg
            go_loopw [59] (fun kv wr => ∃ i : Nat, i ≤ n ∧ kv = .int .i64 i ∧ Hid (IRow wr gn n (fun j => if j < i then ((gF P.data.toList B.data.toList ts K' (us.getD j []) : Nat) : Int) else 0)) ∧ Hid (IRow wr g n (fun i => ((gF P.data.toList B.data.toList ts (K' + 1) (us.getD i []) : Nat) : Int))) ∧ Below gw W0 wr) (fun kv _ => n - (intOf kv).toNat)
            case atStart => exact ⟨0, by omega, rfl, HN5.out.same (fun j _ => by rw [if_neg (by omega)]), HG5, hb5⟩
            case round =>
              obtain ⟨i, hin, rfl, HI1, HI2, hbi⟩ := hrel
              obtain ⟨wi, rfl⟩ : ∃ wi : World, wi = wr := ⟨_, rfl⟩
              by_cases hil : i < n
              · obtain ⟨ub, hub⟩ : ∃ ub : ByteArray, ub = ⟨(us.getD i []).toArray⟩ := ⟨_, rfl⟩
                have hcu : wi.cell? ⟨gs, i, none⟩ = some (.string ub) := by
                  obtain ⟨a', c', hv', hc'⟩ := HUX.out _ hbi
                  obtain ⟨g', o', k1, k2, k3⟩ := hc' i (by rw [← HN.out]; exact hil)
                  rw [k1] at hv'
                  simp only [Value.slice.injEq, Option.some.injEq, Addr.mk.injEq] at hv'
                  obtain ⟨⟨e1, e2, _⟩, _⟩ := hv'
                  rw [← e1, ← e2, Nat.zero_add] at k3
                  rw [k3, hub]; rfl
                have HUB : Hid (ub.data.toList = us.getD i []) := by show _ = _; rw [hub]
                have hul : ub.size ≤ 100 := by
                  have hlu : ub.size = (us.getD i []).length := by rw [← HUB.out]; simp
                  have him : us.getD i [] ∈ us := by
                    have : i < us.length := by rw [← HN.out]; exact hil
                    rw [List.getD_eq_getElem?_getD, List.getElem?_eq_getElem this]; exact List.getElem_mem _
                  rcases HSPT.out.ok _ him with e | e
                  · rw [hlu, e]; simp
                  · have := HT4.out _ e; omega
                clear hub
                go_wp2
                obtain ⟨r, hr⟩ : ∃ r, r = wi.heap.size := ⟨_, rfl⟩
                have HR0' : Hid ((wi.alloc (.stringIter sg 0)).heap[r]? = some (.stringIter sg 0)) := by show _ = _; rw [hr]; exact heap_alloc_last wi _
                have HI1' := Lib.hid (HI1.out.alloc (.stringIter sg 0))
                have HI2' := Lib.hid (HI2.out.alloc (.stringIter sg 0))
                have hsz := hbi.size
                have hw00 := HW0.out
                have hbi' : Below gw W0 (wi.alloc (.stringIter sg 0)) := hbi.alloc (by omega) _
                have HRN : Hid (gn < r ∧ g < r) := by show _ ∧ _; have := HI1.out.lt; have := HI2.out.lt; omega
                rw [← hr]
                clear hr hsz hw00
                go_loopg [] sg.size (fun mm wr => ∃ k : Nat, k + mm = sg.size ∧ Hid (wr.heap[r]? = some (.stringIter sg k)) ∧ Hid (IRow wr gn n (fun j => if j < i then ((gF P.data.toList B.data.toList ts K' (us.getD j []) : Nat) : Int) else if j = i then ((gS P.data.toList B.data.toList ts K' (us.getD i []) k : Nat) : Int) else 0)) ∧ Hid (IRow wr g n (fun i => ((gF P.data.toList B.data.toList ts (K' + 1) (us.getD i []) : Nat) : Int))) ∧ Below gw W0 wr)
                case atStart => exact ⟨0, by omega, HR0', HI1'.out.same (fun j _ => by
                  by_cases hj : j < i
                  · rw [if_pos hj, if_pos hj]
                  · rw [if_neg hj, if_neg hj]
                    split
                    · rw [gS_zero]; rfl
                    · rfl), HI2', hbi'⟩
                case round =>
                  clear HR0' HI1' HI2' hbi'
                  obtain ⟨k, hkm, HIT, HJ1, HJ2, hbk⟩ := hrel
                  obtain ⟨wk, rfl⟩ : ∃ wk : World, wk = wr := ⟨_, rfl⟩
                  by_cases hkl : k < sg.size
                  · have hAk := HSA.out k hkl
                    have hgr : gw < r ∧ gn ≠ r ∧ g ≠ r := by have := HRN.out; have := HNE.out; omega
                    have hgg := HNE.out.1
                    have hgw2 := HNE.out.2
                    obtain ⟨c, hc⟩ : ∃ c, c = sg[k]'hkl := ⟨_, rfl⟩
                    have hkf : k < (fS (P.data.toList.getD K' 0)).length := by rw [← HSL.out]; simpa using hkl
                    have hcf : (fS (P.data.toList.getD K' 0))[k]'hkf = c := by
                      have h1 : sg.data.toList[k]'(by simpa using hkl) = (fS (P.data.toList.getD K' 0))[k]'hkf := List.getElem_of_eq HSL.out _
                      rw [← h1, hc]; simp [ByteArray.getElem_eq_getElem_data]
                    have HSUC : Hid (gS P.data.toList B.data.toList ts K' (us.getD i []) (k + 1) = gS P.data.toList B.data.toList ts K' (us.getD i []) k + gC P.data.toList B.data.toList ts K' (us.getD i []) c) := by
                      show _ = _
                      rw [gS_succ _ _ _ _ _ hkf, hcf]
                    have hex : (sg.extract k (k + 1)).data.toList = [c] := by rw [hc]; exact ext1Y sg k hkl
                    obtain ⟨tb, htb⟩ : ∃ tb : ByteArray, tb = ub ++ sg.extract k (k + 1) := ⟨_, rfl⟩
                    have HTB : Hid (tb.data.toList = us.getD i [] ++ [c]) := by show _ = _; rw [htb, ByteArray.data_append, Array.toList_append, HUB.out, hex]
                    have HTL1 : Hid (tb.size ≤ 1048576) := by
                      show _ ≤ _
                      have h1 : tb.data.toList.length = tb.size := by simp
                      have h2 : ub.data.toList.length = ub.size := by simp
                      rw [← h1, HTB.out, ← HUB.out, List.length_append, h2]
                      simp; omega
                    have HTA : Hid (∀ j (h : j < tb.size), (tb[j]'h).toNat < 128) := fun j hj => by
                      have hm : tb[j]'hj ∈ tb.data.toList := by
                        have : tb[j]'hj = tb.data.toList[j]'(by simpa using hj) := by simp [ByteArray.getElem_eq_getElem_data]
                        rw [this]; exact List.getElem_mem _
                      rw [HTB.out] at hm
                      rcases List.mem_append.1 hm with hm | hm
                      · have him : us.getD i [] ∈ us := by
                          have : i < us.length := by rw [← HN.out]; exact hil
                          rw [List.getD_eq_getElem?_getD, List.getElem?_eq_getElem this]; exact List.getElem_mem _
                        rcases HSPT.out.ok _ him with e | e
                        · rw [e] at hm; simp at hm
                        · obtain ⟨x, hx, hpre, _⟩ := (beg_iff ts _).1 e
                          exact HAW.out x hx _ (hpre.subset hm)
                      · rw [List.mem_singleton.1 hm, hc]; exact hAk
                    have HPH : Hid (∀ W, Calls Tryd.prog 35 #[.string B, .string (sg.extract k (k + 1))] W fun e w' => e = .returned (.bool (B.data.toList.contains c)) ∧ W = w') := fun W => by
                      refine plHas_b B _ _ W hBs (by show (sg.extract k (k + 1)).data.size ≤ _; rw [← Array.length_toList, hex]; simp) ?_
                      rw [hex]; exact one_infix c _
                    have HCL : Hid (∀ W, Below gw W0 W → Calls Tryd.prog 70 #[.agg #[.string P, .string B, .slice a m cap], .string tb] W fun e w' => e = .returned (.bool (decide (Free ts tb.data.toList))) ∧ Below W.heap.size W w') := fun W hW => HCC.out tb HTL1.out W (HWW.out W hW)
                    have hkw : IntKind.i64.wrap ((k : Int) + 1) = (k : Int) + 1 := IntWalk.i64_in _ (by omega)
                    have hk0 : (0 : Int) ≤ (k : Int) := by omega
                    have hk1 : (k : Int) + 1 ≤ (sg.size : Int) := by omega
                    have hk2 : (k : Int) ≤ (k : Int) + 1 := by omega
                    clear hkf hcf
                    go_wp2_with (at_next; refine wpList_next_str _ rfl _ rfl r sg k rfl HIT.out hkl hAk ?_; intro w1 hr1 hg1 hs1; have HI1 := Lib.hid hr1; have hb1 : Below gw W0 w1 := hbk.grown hg1 (by have h1 := hbk.size; have h2 := HW0.out; omega) (fun q hq => by cases hq; omega); have HBB1 := Lib.hid hb1; have HA1 := Lib.hid (IRow.gb HJ1.out hg1 hgr.2.1); have HA2 := Lib.hid (IRow.gb HJ2.out hg1 hgr.2.2); have d0 := Lib.cell_of_heap (HBX.out _ hb1) 0; have d1 := Lib.cell_of_heap (HBX.out _ hb1) 1; have d2 := Lib.cell_of_heap (HBX.out _ hb1) 2; simp at d0 d1 d2; clear hr1 hg1 hs1 hb1)
                    rw [← htb]
                    clear htb hc hex hAk
                    cases hbar : B.data.toList.contains c with
                    | true =>
                      rw [hbar] at HPH
                      have HJ3 : Hid (IRow w1 gn n (fun j => if j < i then ((gF P.data.toList B.data.toList ts K' (us.getD j []) : Nat) : Int) else if j = i then ((gS P.data.toList B.data.toList ts K' (us.getD i []) (k + 1) : Nat) : Int) else 0)) := by
                        show IRow _ _ _ _
                        have e0 : gC P.data.toList B.data.toList ts K' (us.getD i []) c = 0 := by unfold gC; rw [if_neg (by rw [hbar]; simp)]
                        rw [HSUC.out, e0, Nat.add_zero]; exact HA1.out
                      clear hbar HSUC
                      go_quiet (first | (go_at_call 35; refine (HPH.out _).mono ?_; rintro e w' ⟨rfl, rfl⟩; exact ⟨rfl, _, rfl⟩))
                      go_wp2
                      go_roundg (gk - 1)
                      case rel => exact ⟨k + 1, by omega, HI1.out, HJ3.out, HA2.out, below_drewN HBB1.out _⟩
                      case measure => omega
                    | false =>
                      rw [hbar] at HPH
                      by_cases hfr : Free ts (us.getD i [] ++ [c])
                      · have HFR : Hid (decide (Free ts tb.data.toList) = true) := by show _ = _; rw [HTB.out, decide_eq_true hfr]
                        have hq : qFree ts (us.getD i [] ++ [c]) = true := by unfold qFree; exact decide_eq_true hfr
                        have e0 : gC P.data.toList B.data.toList ts K' (us.getD i []) c = gF P.data.toList B.data.toList ts (K' + 1) (stt ts (us.getD i [] ++ [c])) := by
                          unfold gC; rw [if_pos (by rw [hbar]; rfl), if_pos hq]
                        have hmem : stt ts (us.getD i [] ++ [c]) ∈ us := HSPT.out.beg (stt_beg ts _)
                        have hix := ixP_mem hmem
                        obtain ⟨sb, hsb⟩ : ∃ sb : ByteArray, sb = ⟨(stt ts tb.data.toList).toArray⟩ := ⟨_, rfl⟩
                        have hsd : sb.data.toList = stt ts (us.getD i [] ++ [c]) := by rw [hsb, ← HTB.out]
                        have HTS : Hid (∀ W, Below gw W0 W → Calls Tryd.prog 73 #[.agg #[.string P, .string B, .slice a m cap], .string tb] W fun e w' => e = .returned (.string sb) ∧ Below W.heap.size W w') := fun W hW => by rw [hsb]; exact HSS.out tb HTL1.out HTA.out W (HWW.out W hW)
                        have HIX : Hid (∀ W, Below gw W0 W → Calls Tryd.prog 72 #[.slice (some ⟨gs, 0, none⟩) n cs, .string sb] W fun e w' => e = .returned (.int .i64 (ixP us (stt ts (us.getD i [] ++ [c])) : Nat)) ∧ W = w') := fun W hW => by
                          rw [← hsd]
                          exact plIndex_any sb us _ W (by have := HN.out; omega) (HUX.out W hW)
                        obtain ⟨x, hx⟩ : ∃ x, ixP us (stt ts (us.getD i [] ++ [c])) = x := ⟨_, rfl⟩
                        rw [hx] at hix HIX
                        have hxn : x < n := by rw [HN.out]; exact hix.1
                        obtain ⟨A, hA⟩ : ∃ A : Nat, A = gS P.data.toList B.data.toList ts K' (us.getD i []) k := ⟨_, rfl⟩
                        obtain ⟨F, hF⟩ : ∃ F : Nat, F = gF P.data.toList B.data.toList ts (K' + 1) (us.getD x []) := ⟨_, rfl⟩
                        have hAb : A ≤ 26 * 208827064576 := by rw [hA]; exact gS_bd _ _ _ (by rw [HPL.out]; omega) _ _ _
                        have hFb : F ≤ 208827064576 := by rw [hF]; exact gF_bd _ _ _ (by rw [HPL.out]; omega) _ _
                        have hwA : IntKind.i64.wrap ((A : Int) + (F : Int)) = (A : Int) + (F : Int) := IntWalk.i64_in _ (by omega)
                        have HS1 : Hid (gS P.data.toList B.data.toList ts K' (us.getD i []) (k + 1) = A + F) := by
                          show _ = _
                          rw [HSUC.out, e0, hA, hF, hix.2]
                        have hcA : w1.cell? ⟨gn, i, none⟩ = some (.int .i64 (A : Int)) := by
                          rw [HA1.out.cell hil, if_neg (by omega), if_pos rfl, hA]
                        have hcF : w1.cell? ⟨g, x, none⟩ = some (.int .i64 (F : Int)) := by
                          rw [HA2.out.cell hxn, hF]
                        have hfz := HA1.out.frozen i
                        have HCA := Lib.hid hcA
                        have HCF := Lib.hid hcF
                        have HFZ := Lib.hid hfz
                        have HGL : Hid (gn < w1.heap.size ∧ g < w1.heap.size ∧ r < w1.heap.size) := ⟨HA1.out.lt, HA2.out.lt, (Array.getElem?_eq_some_iff.1 HI1.out).1⟩
                        have HX := Lib.hid hxn
                        have hi0 : (0 : Int) ≤ (i : Int) := by omega
                        have hi1 : (i : Int) < (n : Int) := by omega
                        have hx0 : (0 : Int) ≤ (x : Int) := by omega
                        have hx1 : (x : Int) < (n : Int) := by omega
                        have hb0 : b0 < gw := HBG.out
                        have hne1 : ¬ b0 = gn := by omega
                        have hne2 : ¬ gn = g := by omega
                        clear hq e0 hmem hix hsb hsd hx hA hF hAb hFb HSUC hbar hfr hcA hcF hfz hxn
                        go_region_held3 (fun w' => w'.cell? ⟨b0, 0, none⟩ = some (.string P) ∧ w'.cell? ⟨b0, 1, none⟩ = some (.string B) ∧ w'.cell? ⟨b0, 2, none⟩ = some (.slice a m cap)) (first | go_keep | with_reducible exact ⟨d0, d1, d2⟩)
                          (first
                          | (go_at_call 35; (with_reducible refine (HPH.out _).mono ?_); rintro e w' ⟨rfl, rfl⟩)
                          | (go_at_call 70; (refine (HCL.out _ (below_drwY HBB1.out)).mono ?_); rintro e w2 ⟨rfl, b2⟩; rw [HFR.out]; have hb2 : Below gw W0 w2 := HBB1.out.trans ((chain (w := w1) (by go_grown) b2).mono (by have h1 := HBB1.out.size; have h2 := HW0.out; omega)); have HB2 := Lib.hid (chain (w := w1) (by go_grown) b2); have HBB2 := Lib.hid hb2; have d0 := Lib.cell_of_heap (HBX.out _ hb2) 0; have d1 := Lib.cell_of_heap (HBX.out _ hb2) 1; have d2 := Lib.cell_of_heap (HBX.out _ hb2) 2; simp at d0 d1 d2; clear hb2 b2))
                        all_goals
                          go_wp2_with fail
                          have cA := (HB2.out.cell (p := ⟨gn, i, none⟩) HGL.out.1).trans HCA.out
                          have cF := (HB2.out.cell (p := ⟨g, x, none⟩) HGL.out.2.1).trans HCF.out
                          have fz := (HA1.out.keep HB2.out).frozen i
                          have hxn := HX.out
                          go_region_with
                            (first
                            | (go_at_call 73; (refine (HTS.out _ (below_drwY HBB2.out)).mono ?_); rintro e w3 ⟨rfl, b3⟩; have hB3 : Below w1.heap.size w1 w3 := HB2.out.trans ((chain (w := w2) (by go_grown) b3).mono HB2.out.size); have hb3 : Below gw W0 w3 := HBB1.out.trans (hB3.mono (by have h1 := HBB1.out.size; have h2 := HW0.out; omega)); have HB3 := Lib.hid hB3; have HBB3 := Lib.hid hb3; have d0 := Lib.cell_of_heap (HBX.out _ hb3) 0; have d1 := Lib.cell_of_heap (HBX.out _ hb3) 1; have d2 := Lib.cell_of_heap (HBX.out _ hb3) 2; simp at d0 d1 d2; have cA := (hB3.cell (p := ⟨gn, i, none⟩) HGL.out.1).trans HCA.out; have cF := (hB3.cell (p := ⟨g, x, none⟩) HGL.out.2.1).trans HCF.out; have fz := (HA1.out.keep hB3).frozen i; clear hb3 b3 hB3)
                            | (go_at_call 72; (with_reducible refine (HIX.out _ HBB3.out).mono ?_); rintro e w' ⟨rfl, rfl⟩))
                          all_goals
                            go_wp2
                            go_roundg (gk - 1)
                            case rel =>
                              refine ⟨k + 1, by omega, ?_, ?_, (HA2.out.keep HB3.out).other (fun e => hgg e) _, HBB3.out.setCell (by dsimp only; omega) _⟩
                              · show _ = _
                                rw [Below.heap_setCell _ _ _ _ (by dsimp only; omega), HB3.out.block r HGL.out.2.2]
                                exact HI1.out
                              · show IRow _ _ _ _
                                refine (HA1.out.keep HB3.out).put i _ (fun j => ?_)
                                by_cases hji : j = i
                                · subst hji
                                  rw [if_neg (by omega), if_pos rfl, if_pos rfl, HS1.out]
                                  rfl
                                · by_cases hj2 : j < i
                                  · simp only [hji, hj2, if_false, if_true]
                                  · simp only [hji, hj2, if_false]
                            case measure => omega
                      · have HFR : Hid (decide (Free ts tb.data.toList) = false) := by show _ = _; rw [HTB.out, decide_eq_false hfr]
                        have hq : qFree ts (us.getD i [] ++ [c]) = false := by unfold qFree; exact decide_eq_false hfr
                        have e0 : gC P.data.toList B.data.toList ts K' (us.getD i []) c = 0 := by
                          unfold gC; rw [if_pos (by rw [hbar]; rfl), if_neg (by rw [hq]; simp)]
                        have HJ3 : Hid (IRow w1 gn n (fun j => if j < i then ((gF P.data.toList B.data.toList ts K' (us.getD j []) : Nat) : Int) else if j = i then ((gS P.data.toList B.data.toList ts K' (us.getD i []) (k + 1) : Nat) : Int) else 0)) := by
                          show IRow _ _ _ _
                          rw [HSUC.out, e0, Nat.add_zero]; exact HA1.out
                        have HGL : Hid (gn < w1.heap.size ∧ g < w1.heap.size ∧ r < w1.heap.size) := ⟨HA1.out.lt, HA2.out.lt, (Array.getElem?_eq_some_iff.1 HI1.out).1⟩
                        clear hq e0 HSUC hbar hfr
                        go_region_held3 (fun w' => w'.cell? ⟨b0, 0, none⟩ = some (.string P) ∧ w'.cell? ⟨b0, 1, none⟩ = some (.string B) ∧ w'.cell? ⟨b0, 2, none⟩ = some (.slice a m cap)) (first | go_keep | with_reducible exact ⟨d0, d1, d2⟩)
                          (first
                          | (go_at_call 35; (with_reducible refine (HPH.out _).mono ?_); rintro e w' ⟨rfl, rfl⟩)
                          | (go_at_call 70; (refine (HCL.out _ (below_drwY HBB1.out)).mono ?_); rintro e w2 ⟨rfl, b2⟩; rw [HFR.out]; have hb2 : Below gw W0 w2 := HBB1.out.trans ((chain (w := w1) (by go_grown) b2).mono (by have h1 := HBB1.out.size; have h2 := HW0.out; omega)); have HB2 := Lib.hid (chain (w := w1) (by go_grown) b2); have HBB2 := Lib.hid hb2; have d0 := Lib.cell_of_heap (HBX.out _ hb2) 0; have d1 := Lib.cell_of_heap (HBX.out _ hb2) 1; have d2 := Lib.cell_of_heap (HBX.out _ hb2) 2; simp at d0 d1 d2; clear hb2 b2))
                        all_goals
                          go_wp2
                          go_roundg (gk - 1)
                          case rel => exact ⟨k + 1, by omega, (HB2.out.block r HGL.out.2.2).trans HI1.out, HJ3.out.keep HB2.out, HA2.out.keep HB2.out, HBB2.out⟩
                          case measure => omega
                  · have HJ3 : Hid (IRow wk gn n (fun j => if j < i + 1 then ((gF P.data.toList B.data.toList ts K' (us.getD j []) : Nat) : Int) else 0)) := by
                      show IRow _ _ _ _
                      have hall := gS_all P.data.toList B.data.toList ts (k := K') (by rw [HPL.out]; exact hKP) (us.getD i [])
                      have hsz2 : (fS (P.data.toList.getD K' 0)).length = k := by rw [← HSL.out]; simp; omega
                      rw [hsz2] at hall
                      exact HJ1.out.same (fun j _ => by
                        by_cases hj : j < i
                        · rw [if_pos hj, if_pos (by omega)]
                        · rw [if_neg hj]
                          by_cases hj2 : j = i
                          · subst hj2; rw [if_pos rfl, if_pos (by omega), hall]
                          · rw [if_neg hj2, if_neg (by omega)])
                    go_wp2_with (at_next; refine wpList_next_end _ rfl _ rfl r sg k rfl HIT.out hkl ?_)
                    go_roundw
                    case rel => exact ⟨i + 1, by omega, by go_num, HJ3, HJ2, hbk⟩
                    case measure => simp [intOf]; omega
              · have HI3 : Hid (IRow wi gn n (fun i => ((gF P.data.toList B.data.toList ts K' (us.getD i []) : Nat) : Int))) := by
                  show IRow _ _ _ _
                  exact HI1.out.same (fun j hj => by rw [if_pos (by omega)])
                go_wp2
                go_roundw
                case rel => exact ⟨K', gn, by omega, by omega, rfl, rfl, by have := HNE.out; omega, HI3, hbi⟩
                case measure => first | (simp [intOf]; done) | (simp [intOf]; omega)
        · obtain ⟨sb, hsb⟩ : ∃ sb : ByteArray, sb = ⟨(stt ts t.data.toList).toArray⟩ := ⟨_, rfl⟩
          have hmem : stt ts t.data.toList ∈ us := HSPT.out.beg (stt_beg ts t.data.toList)
          have hix := ixP_mem hmem
          have hsd : sb.data.toList = stt ts t.data.toList := by rw [hsb]
          have HTS : Hid (∀ W, Below gw W0 W → Calls Tryd.prog 73 #[.agg #[.string P, .string B, .slice a m cap], .string t] W fun e w' => e = .returned (.string sb) ∧ Below W.heap.size W w') := fun W hW => by rw [hsb]; exact HTT.out W (HWW.out W hW)
          have HIX : Hid (∀ W, Below gw W0 W → Calls Tryd.prog 72 #[.slice (some ⟨gs, 0, none⟩) n cs, .string sb] W fun e w' => e = .returned (.int .i64 (ixP us (stt ts t.data.toList) : Nat)) ∧ W = w') := fun W hW => by
            rw [← hsd]
            exact plIndex_any sb us _ W (by have := HN.out; omega) (HUX.out W hW)
          obtain ⟨x, hx⟩ : ∃ x, ixP us (stt ts t.data.toList) = x := ⟨_, rfl⟩
          rw [hx] at hix HIX
          have hxn : x < n := by rw [HN.out]; exact hix.1
          obtain ⟨F, hF⟩ : ∃ F : Nat → Int, F = fun i => ((gF P.data.toList B.data.toList ts K (us.getD i []) : Nat) : Int) := ⟨_, rfl⟩
          have HV2 : Hid (F x = ((gF P.data.toList B.data.toList ts t.size (stt ts t.data.toList) : Nat) : Int)) := by
            show _ = _
            rw [hF]
            simp only [hix.2, show K = t.size by omega]
          rw [← hF] at HK
          have HKK := Lib.hid HK
          clear hF
          have HKg := Lib.hid hb
          have hgl := HK.out.lt
          clear hsb hmem hix hsd hx
          go_wp2_with (first | (go_at_call 73; refine (HTS.out _ HKg.out).mono ?_; rintro e w4 ⟨rfl, b4⟩; have hw4 : Below gw W0 w4 := HKg.out.trans (b4.mono (by have := HKg.out.size; have := HW0.out; omega)); have HK4 := Lib.hid (HK.out.keep b4)) | (go_at_call 72; refine (HIX.out _ hw4).mono ?_; rintro e w' ⟨rfl, rfl⟩; have c4 := HK4.out.cell hxn))
          go_ret
          exact ⟨ret_int HV2.out, HWW.out _ hw4⟩
end Go.Proofs.YtaomcimmhlpflaaDoor
