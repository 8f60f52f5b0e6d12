/-
  Sure digits: the program's side.
-/
import Derived.Test.YtakckgbkfnogbaaDoorPzSure
import Derived.Lib.ConvBytes
import Derived.Deep.DrawnRows
namespace Go.Proofs.YtakckgbkfnogbaaDoor
open Go.RowKit
set_option maxRecDepth 100000

/-- Block b holds n bytes. -/
structure BYt (w : World) (b n : Nat) (f : Nat → Int) : Prop where
  lt : b < w.heap.size
  cell : ∀ j, j < n → w.cell? ⟨b, j, none⟩ = some (.int .u8 (f j))
  fz : ∀ j, j < n → w.frozen? ⟨b, j, none⟩ = false
theorem BYt.put {w : World} {b n : Nat} {f g : Nat → Int} (h : BYt w b n f) (i : Nat) (x : Int) (hi : i < n) (hg : ∀ j, j < n → g j = if j = i then x else f j) : BYt (w.setCell ⟨b, i, none⟩ (.int .u8 x)) b n g := by
  refine ⟨by simpa [World.setCell] using h.lt, fun j hj => ?_, fun j hj => by rw [World.frozen?_setCell]; exact h.fz j hj⟩
  rw [hg j hj]
  by_cases e : j = i
  · subst e
    rw [if_pos rfl]; exact World.cell?_setCell_same (h := h.cell j hj) ..
  · rw [if_neg e]
    exact (World.cell?_setCell_other (h := fun h2 => e (by cases h2; rfl)) ..).trans (h.cell j hj)
theorem BYt.same {w : World} {b n : Nat} {f g : Nat → Int} (h : BYt w b n f) (e : ∀ j, j < n → f j = g j) : BYt w b n g := ⟨h.lt, fun j hj => by rw [← e j hj]; exact h.cell j hj, h.fz⟩
theorem BYt.drewN {w : World} {b n : Nat} {f : Nat → Int} (h : BYt w b n f) (k : Nat) : BYt (w.drewN k) b n f := ⟨h.lt, h.cell, h.fz⟩
theorem BYt.below {w w' : World} {b n : Nat} {f : Nat → Int} (h : BYt w b n f) (k : Below w.heap.size w w') : BYt w' b n f := by
  refine ⟨by have := k.size; have := h.lt; omega, fun j hj => (k.cell (p := ⟨b, j, none⟩) h.lt).trans (h.cell j hj), fun j hj => ?_⟩
  have := h.fz j hj
  unfold World.frozen? at this ⊢
  rw [k.block b h.lt]; exact this
theorem bytes_new (w : World) (s : ByteArray) : BYt (Lib.bytesWorld w 5 s) w.heap.size s.size (fun j => ((s.data.toList.getD j 0).toNat : Int)) := by
  refine ⟨by rw [Lib.bytesWorld_size]; omega, fun j hj => Lib.bytesWorld_cell w _ s j hj, fun j hj => ?_⟩
  have hc := Lib.bytesWorld_cell w 5 s j hj
  have hb := Lib.bytesWorld_at_new w 5 s
  have hlt : j < (Lib.bytesCells w 5 s).size := by
    rcases Nat.lt_or_ge j (Lib.bytesCells w 5 s).size with h | h
    · exact h
    · rw [Lib.cell_of_heap hb, Array.getElem?_eq_none h] at hc; cases hc
  simp only [World.frozen?, hb]
  rw [Bool.and_eq_false_iff]; left
  rw [decide_eq_false_iff_not]; omega
theorem bytes_below (w : World) (s : ByteArray) : Below w.heap.size w (Lib.bytesWorld w 5 s) := ⟨rfl, rfl, rfl, by rw [Lib.bytesWorld_size]; omega, fun k hk => Lib.bytesWorld_at_old w _ s k hk⟩
theorem grownB_refl (b : Nat) (w : World) : w.grownBy w (some b) := ⟨rfl, rfl, rfl, Nat.le_refl _, fun _ _ _ => rfl⟩
theorem grownB_set {b : Nat} {w w' : World} (h : w.grownBy w' (some b)) (i : Nat) (v : Value) : w.grownBy (w'.setCell ⟨b, i, none⟩ v) (some b) :=
  ⟨h.os, h.tape, h.output, by simpa [World.setCell] using h.size, fun k hk hne => by rw [Below.heap_setCell w' ⟨b, i, none⟩ v k (fun e => hne (by rw [e]))]; exact h.block k hk hne⟩
theorem grownB_drewN {b : Nat} {w w' : World} (h : w.grownBy w' (some b)) (k : Nat) : w.grownBy (w'.drewN k) (some b) := ⟨h.os, h.tape, h.output, h.size, h.block⟩
def byL (n : Nat) (g : Nat → Int) : List UInt8 := (List.range n).map fun j => UInt8.ofNat (g j).toNat
theorem byL_len (n : Nat) (g : Nat → Int) : (byL n g).length = n := by simp [byL]
theorem byL_get {n : Nat} {g : Nat → Int} {j : Nat} (hj : j < n) (h0 : 0 ≤ g j) (h1 : g j ≤ 255) : (((byL n g).getD j 0).toNat : Int) = g j := by
  have e : (byL n g).getD j 0 = UInt8.ofNat (g j).toNat := by
    simp [byL, List.getD_eq_getElem?_getD, hj]
  rw [e]; simp; omega
theorem conv_back (W : World) (b n c : Nat) (g : Nat → Int) (h : BYt W b n g) (hg : ∀ j, j < n → 0 ≤ g j ∧ g j ≤ 255) :
    (convert 65 9 (.slice (some ⟨b, 0, none⟩) n c)).run Tryd.prog W = .ok (.string ⟨(byL n g).toArray⟩) W := by
  have hl := byL_len n g
  have := run_convert_bytes_back (P := Tryd.prog) W 65 9 5 ⟨b, 0, none⟩ c (byL n g) Tryd.underlying65 Tryd.underlying5 Tryd.underlying9 (by
    intro j hj
    rw [hl] at hj
    have h1 := h.cell j hj
    have e : (⟨b, 0, none⟩ : Addr).add j = ⟨b, j, none⟩ := by simp [Addr.add]; intro h; exact h.symm
    rw [e, h1]
    have h2 := byL_get (g := g) hj (hg j hj).1 (hg j hj).2
    rw [List.getD_eq_getElem?_getD, List.getElem?_eq_getElem (by rw [hl]; exact hj)] at h2
    simp only [Option.getD_some] at h2
    rw [h2])
  rwa [hl] at this
def sfN (S : List (List UInt8)) (f : List UInt8) (j p : Nat) : Int := ((sureAt (S.take j) f p).toNat : Int)
theorem sfN_bd (S : List (List UInt8)) (f : List UInt8) (j p : Nat) : 0 ≤ sfN S f j p ∧ sfN S f j p ≤ 255 := by
  unfold sfN; have := (sureAt (S.take j) f p).toNat_lt; omega
theorem sfN_all (S : List (List UInt8)) (f : List UInt8) : byL 4 (sfN S f S.length) = sureL S f := by
  unfold byL sureL
  apply List.map_congr_left
  intro p _
  unfold sfN; rw [List.take_length]; simp
theorem sfN_same {S : List (List UInt8)} {f : List UInt8} {j p : Nat} (hj : j < S.length) (h : (S.getD j []).getD p 48 = f.getD p 48) : sfN S f (j + 1) p = sfN S f j p := by
  unfold sfN; rw [take_getD S j [] hj, sureAt_same h]
theorem sfN_diff {S : List (List UInt8)} {f : List UInt8} {j p : Nat} (hj : j < S.length) (h : ¬ (S.getD j []).getD p 48 = f.getD p 48) : sfN S f (j + 1) p = 63 := by
  unfold sfN; rw [take_getD S j [] hj, sureAt_diff h]; rfl
theorem at_getD {l : List UInt8} {s : ByteArray} (hs : (⟨l.toArray⟩ : ByteArray) = s) (i : Nat) (hi : i < s.size) : (s[i]'hi).toNat = (l.getD i 48).toNat := by
  subst hs
  have hl : i < l.length := by simpa [ByteArray.size] using hi
  rw [List.getD_eq_getElem?_getD, List.getElem?_eq_getElem hl]; rfl
set_option maxHeartbeats 2000000 in
theorem iSd_any (cs : List Cl) (v : Value) (w : World) (hn : cs.length ≤ 1048576) (h : RdC cs v w) :
    Calls Tryd.prog 28 #[.agg #[v]] w fun e w' => e = .returned (.tuple #[.string (sdA cs), .bool (fsB cs)]) ∧ Below w.heap.size w w' := by
  have HV := Lib.hid h
  have HR := Lib.hid (h.alloc (.cells #[v] 38))
  clear h
  have hb : Below w.heap.size w (w.alloc (.cells #[v] 38)) := (Below.refl _ _).alloc (Nat.le_refl _) _
  have HB := Lib.hid hb
  clear hb
  have HI := Lib.hid (iFst_any cs v _ hn HR.out)
  rcases (show fsB cs = false ∨ fsB cs = true by cases fsB cs <;> simp) with hf | hf
  · have HBb := Lib.hid hf
    have HA := Lib.hid (sdA_no hf)
    rw [hf] at HI
    obtain ⟨q, hq⟩ : ∃ q, q = fsA cs := ⟨_, rfl⟩
    rw [← hq] at HI
    clear hf hq
    go_enter Tryd.func28, Tryd.ntmps28
    go_wp2_with (go_at_call 26; (refine HI.out.mono ?_); rintro e w1 ⟨rfl, b1⟩)
    go_ret2
    exact ⟨ret_sb HA.out.symm HBb.out.symm, chain HB.out b1⟩
  · have hg : pzB cs = true := by
      rcases (show pzB cs = false ∨ pzB cs = true by cases pzB cs <;> simp) with h | h
      · unfold fsB at hf; rw [solP_no h] at hf; simp at hf
      · exact h
    have hl6 := pz_len hg
    have hall := AllC.of hg
    have HQ := Lib.hid (fun W (hr : RdC cs v W) => solutions_any cs v W (by omega) hall hr)
    have hl4 : ∀ j, j < (sol cs).length → ((sol cs).getD j []).length = 4 := fun j hj => sol_len4 (mem_getD _ j _ hj)
    have hSl := sol_len cs
    have hSA : sdA cs = ⟨(sureL (sol cs) ((sol cs).getD 0 [])).toArray⟩ := by rw [sdA_yes hf, solP_yes hg]
    have hp : 0 < (sol cs).length := by unfold fsB at hf; rw [solP_yes hg] at hf; simpa using hf
    have hfa : fsA cs = ⟨((sol cs).getD 0 []).toArray⟩ := by unfold fsA; rw [solP_yes hg]
    obtain ⟨S, hS⟩ : ∃ S, sol cs = S := ⟨_, rfl⟩
    rw [hS] at HQ hl4 hSA hSl hp hfa
    rw [hfa, hf] at HI
    have HBb := Lib.hid hf
    have HA := Lib.hid hSA
    obtain ⟨n, hnn⟩ : ∃ n, n = S.length := ⟨_, rfl⟩
    have HN := Lib.hid hnn
    have HP := Lib.hid hp
    have HL4 := Lib.hid hl4
    rw [← hnn] at hSl
    have hF4 : (⟨(S.getD 0 []).toArray⟩ : ByteArray).size = 4 := by have := hl4 0 hp; simpa [ByteArray.size] using this
    obtain ⟨F, hF⟩ : ∃ s : ByteArray, (⟨(S.getD 0 []).toArray⟩ : ByteArray) = s := ⟨_, rfl⟩
    rw [hF] at HI hF4
    have HF := Lib.hid hF
    clear hp hnn hf hSA hl4 hF hg hall hS hfa
    go_enter Tryd.func28, Tryd.ntmps28
    go_wp2_with (first
      | (go_at_call 26; (refine HI.out.mono ?_); rintro e w1 ⟨rfl, b1⟩; have e0 := (blk1 (box_at w _ b1)).1; have hz := box_lt w _ b1; have B1 := chain HB.out b1; have hcv := Lib.run_convert_string_bytes (P := Tryd.prog) w1 9 65 5 F Tryd.underlying9 Tryd.underlying65 Tryd.underlying5; have hb0 := bytes_new w1 F; have hw0 := bytes_below w1 F; have hc1 := grownCap_ge w1 F.size 0 5; have hc2 := grownCap_le_maxLen w1 F.size 0 5 (by rw [hF4]; unfold maxLen; omega); obtain ⟨c, hc⟩ : ∃ c, grownCap w1 F.size 0 5 = c := ⟨_, rfl⟩; obtain ⟨W, hW⟩ : ∃ W, Lib.bytesWorld w1 5 F = W := ⟨_, rfl⟩; rw [hc] at hcv hc1 hc2; rw [hW] at hcv hb0 hw0; rw [hF4] at hcv hc1 hb0; unfold maxLen at hc2; have HB0 := Lib.hid hb0; have B2 := chain B1 hw0; obtain ⟨e0, hz⟩ := keep1' hz e0 hw0; have A2 := HV.out.below B2; have hw0s := hb0.lt; clear hc hW hb0)
      | (go_at_call 49; (refine (HQ.out _ A2).mono ?_); rintro e w3 ⟨⟨u, rfl, hu⟩, b3⟩; obtain ⟨g, cap, rfl, hg0, hg1, hcc⟩ := hu.pos HP.out; rw [← HN.out]; have HC := Lib.hid hcc; clear hcc))
    have B3 := Lib.hid (chain B2 b3)
    have hbg : w1.heap.size < g := by omega
    have HB3 := Lib.hid ((HB0.out.below b3).same (g := sfN S (S.getD 0 []) 0) (fun j hj => by
      have := HL4.out 0 HP.out
      unfold sfN; rw [List.take_zero, sureAt_nil, ← HF.out]
      simp only [List.getD_eq_getElem?_getD]
      rw [List.getElem?_eq_getElem (show j < (S[0]?.getD []).length by rw [← List.getD_eq_getElem?_getD]; omega)]; rfl))
    have HG3 : Hid (w3.grownBy w3 (some w1.heap.size)) := grownB_refl _ _
    have hwb := B1.size
    clear B1 A2 B2 b1 b3 hu e0 hz HB0 hw0
    obtain ⟨b, hbb⟩ : ∃ b, w1.heap.size = b := ⟨_, rfl⟩
    have HBE := Lib.hid hbb
    rw [hbb] at hbg HB3 HG3 hw0s hwb ⊢
    clear hbb hcv
    go_loopw [23] (fun iv wr => ∃ j : Nat, j ≤ n ∧ iv = .int .i64 j ∧ Hid (BYt wr b 4 (sfN S (S.getD 0 []) j)) ∧ Hid (w3.grownBy wr (some b))) (fun iv _ => n - (intOf iv).toNat)
    case atStart => exact ⟨0, Nat.zero_le _, rfl, HB3, HG3⟩
    case round =>
      clear HB3 HG3
      obtain ⟨j, hj, rfl, HBy, HGr⟩ := hrel
      obtain ⟨wo', rfl⟩ : ∃ wo' : World, wo' = wr := ⟨_, rfl⟩
      by_cases hjn : j < n
      · have hjS : j < S.length := by rw [← HN.out]; exact hjn
        have hjI : (j : Int) < (n : Int) := by omega
        have hs4 : (⟨(S.getD j []).toArray⟩ : ByteArray).size = 4 := by have := HL4.out j hjS; simpa [ByteArray.size] using this
        have cj3 := HC.out j hjS
        unfold strV at cj3
        obtain ⟨s, hs⟩ : ∃ s : ByteArray, (⟨(S.getD j []).toArray⟩ : ByteArray) = s := ⟨_, rfl⟩
        rw [hs] at cj3 hs4
        have HSJ := Lib.hid hs
        have HCJ := Lib.hid cj3
        have cj : wo'.cell? ⟨g, j, none⟩ = some (.string s) := HGr.out.cell cj3 (fun e => by simp only [Option.some.injEq] at e; omega)
        clear hs cj3
        go_wp2
        go_loopw [29] (fun pv wr => ∃ i : Nat, i ≤ 4 ∧ pv = .int .i64 i ∧ Hid (BYt wr b 4 (fun p => if p < i then sfN S (S.getD 0 []) (j + 1) p else sfN S (S.getD 0 []) j p)) ∧ Hid (w3.grownBy wr (some b))) (fun pv _ => 4 - (intOf pv).toNat)
        case atStart => exact ⟨0, Nat.zero_le _, rfl, HBy, HGr⟩
        case round =>
          clear cj HBy HGr
          obtain ⟨i, hi, rfl, HBy, HGr⟩ := hrel
          obtain ⟨wi, rfl⟩ : ∃ wi : World, wi = wr := ⟨_, rfl⟩
          by_cases hi4 : i < 4
          · have hiI : (i : Int) < 4 := by omega
            have his : i < s.size := by omega
            have hiF : i < F.size := by omega
            have hxs := at_getD HSJ.out i his
            have hxF := at_getD HF.out i hiF
            obtain ⟨x, hx⟩ : ∃ x : Nat, ((S.getD j []).getD i 48).toNat = x := ⟨_, rfl⟩
            obtain ⟨y, hy⟩ : ∃ y : Nat, ((S.getD 0 []).getD i 48).toNat = y := ⟨_, rfl⟩
            rw [hx] at hxs
            rw [hy] at hxF
            have cb := HBy.out.cell i hi4
            have cf := HBy.out.fz i hi4
            have cl := HBy.out.lt
            by_cases he : x = y
            · subst he
              have HSM := Lib.hid (sfN_same hjS (UInt8.toNat_inj.1 (hx.trans hy.symm)))
              have HBy2 : ∀ q, Hid (BYt (wi.drewN q) b 4 (fun p => if p < i + 1 then sfN S (S.getD 0 []) (j + 1) p else sfN S (S.getD 0 []) j p)) := fun q => (HBy.out.same (fun p _ => by
                by_cases h1 : p < i
                · rw [if_pos h1, if_pos (by omega)]
                · rw [if_neg h1]
                  by_cases h2 : p = i
                  · subst h2; rw [if_pos (by omega), HSM.out]
                  · rw [if_neg (by omega)])).drewN q
              have HGr2 : ∀ q, Hid (w3.grownBy (wi.drewN q) (some b)) := fun q => grownB_drewN HGr.out q
              clear hx hy
              go_wp2
              go_quiet (fail)
              go_wp2
              go_roundw
              case rel => exact ⟨i + 1, by omega, by go_num, HBy2 _, HGr2 _⟩
              case measure => simp [intOf]; omega
            · have HSM := Lib.hid (sfN_diff hjS (fun h => he (by rw [← hx, ← hy, h])))
              have HBy2 : ∀ q, Hid (BYt ((wi.drewN q).setCell ⟨b, i, none⟩ (.int .u8 63)) b 4 (fun p => if p < i + 1 then sfN S (S.getD 0 []) (j + 1) p else sfN S (S.getD 0 []) j p)) := fun q => (HBy.out.drewN q).put i 63 hi4 (fun p _ => by
                by_cases h2 : p = i
                · subst h2; rw [if_pos (by omega), if_pos rfl, HSM.out]
                · rw [if_neg h2]
                  by_cases h1 : p < i
                  · rw [if_pos (by omega), if_pos h1]
                  · rw [if_neg (by omega), if_neg h1])
              have HGr2 : ∀ q, Hid (w3.grownBy ((wi.drewN q).setCell ⟨b, i, none⟩ (.int .u8 63)) (some b)) := fun q => grownB_set (grownB_drewN HGr.out q) i _
              have hxy : ¬ (x : Int) = (y : Int) := by omega
              have hxb : ((x : Int) == (y : Int)) = false := by rw [beq_eq_false_iff_ne]; exact hxy
              clear hx hy
              go_wp2
              go_quiet (fail)
              go_wp2
              go_roundw
              case rel => exact ⟨i + 1, by omega, by go_num, HBy2 _, HGr2 _⟩
              case measure => simp [intOf]; omega
          · have HBy4 : Hid (BYt wi b 4 (sfN S (S.getD 0 []) (j + 1))) := HBy.out.same (fun p hp => if_pos (by omega))
            have hiI : ¬ (i : Int) < 4 := by omega
            go_wp2
            go_roundw
            case rel => exact ⟨j + 1, by omega, by go_num, HBy4, HGr⟩
            case measure => simp [intOf]; omega
      · have HE : Hid ((⟨(byL 4 (sfN S (S.getD 0 []) j)).toArray⟩ : ByteArray) = sdA cs) := by
          show _ = _; rw [HA.out, show j = S.length by have := HN.out; omega, sfN_all]
        have hcb := conv_back wo' b 4 c (sfN S (S.getD 0 []) j) HBy.out (fun p _ => sfN_bd _ _ _ _)
        obtain ⟨o, ho⟩ : ∃ o : ByteArray, (⟨(byL 4 (sfN S (S.getD 0 []) j)).toArray⟩ : ByteArray) = o := ⟨_, rfl⟩
        rw [ho] at hcb HE
        have hjI : ¬ (j : Int) < (n : Int) := by omega
        clear ho
        go_wp2
        go_ret2
        exact ⟨ret_sb HE.out HBb.out.symm, B3.out.grown HGr.out B3.out.size (fun q hq => by simp only [Option.some.injEq] at hq; omega)⟩
end Go.Proofs.YtakckgbkfnogbaaDoor
