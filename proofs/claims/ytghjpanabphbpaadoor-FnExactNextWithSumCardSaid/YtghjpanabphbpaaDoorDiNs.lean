/-
  Numbers with a digit sum: the program's count, whole.
-/
import Derived.Test.YtghjpanabphbpaaDoorDiOi
namespace Go.Proofs.YtghjpanabphbpaaDoor
open Go.RowKit
set_option maxRecDepth 100000

theorem sumTo_front (n : Nat) (f : Nat → Int) : sumTo (n + 1) f = f 0 + sumTo n (fun i => f (i + 1)) := by
  induction n with
  | zero => simp [sumTo]
  | succ n ih => rw [sumTo_succ, ih, sumTo_succ]; omega
theorem sum_part (D : Nat) (u : Int) (x : Nat) : sumTo ((eP D u).toNat - (eP D (u - (x : Int))).toNat) (fun i => W D ((eP D (u - (x : Int))).toNat + i)) = ps D u x := by
  induction x with
  | zero => simp [ps, sumTo]
  | succ x ih =>
    rw [ps, ← ih]
    have hb1 := eP_bd D (u - (x : Int))
    have hb2 := eP_bd D u
    have hle := eP_le D (show u - (x : Int) ≤ u by omega)
    by_cases h : 0 ≤ u - (x : Int) ∧ u - (x : Int) ≤ 9 * (D : Int)
    · obtain ⟨t, ht⟩ : ∃ t : Nat, u - (x : Int) = (t : Int) := ⟨(u - (x : Int)).toNat, by omega⟩
      have e1 : eP D (u - (x : Int)) = (t : Int) + 1 := by unfold eP; omega
      have e2 : eP D (u - ((x + 1 : Nat) : Int)) = (t : Int) := by unfold eP; omega
      rw [e1, e2]
      rw [e1] at hle
      have e3 : (eP D u).toNat - ((t : Int)).toNat = ((eP D u).toNat - ((t : Int) + 1).toNat) + 1 := by omega
      rw [e3, sumTo_front]
      have e4 : W D (((t : Int)).toNat + 0) = V D (u - (x : Int)) := by rw [W_V, ht]; congr 1
      rw [e4, sumTo_congr _ (fun i => W D ((t : Int).toNat + (i + 1))) (fun i => W D (((t : Int) + 1).toNat + i)) (fun i _ => by congr 1; omega)]
      omega
    · have e2 : eP D (u - ((x + 1 : Nat) : Int)) = eP D (u - (x : Int)) := by unfold eP; omega
      have e3 : V D (u - (x : Int)) = 0 := by
        by_cases h2 : u - (x : Int) < 0
        · exact V_low D _ h2
        · exact V_high D _ (by omega)
      rw [e2, e3]; omega
theorem part_x (D0 D g gi cap : Nat) (a u x : Int) (w : World) (hx : x = (D : Int)) (hD : D ≤ 12) (hD0 : D ≤ D0) (h1 : -1000 ≤ a) (h2 : a ≤ u) (h3 : u ≤ 9223372036854775807)
    (c0 : w.cell? ⟨g, D, none⟩ = some (.slice (some ⟨gi, 0, none⟩) (9 * D + 1) (9 * D + 1))) :
    Calls Tryd.prog 91 #[.slice (some ⟨g, 0, none⟩) (D0 + 1) cap, .int .i64 x, .int .i64 a, .int .i64 u] w fun e w' => e = .returned (.slice (some (adP gi (eP D a).toNat (eP D u).toNat)) ((eP D u).toNat - (eP D a).toNat) ((eP D u).toNat - (eP D a).toNat)) ∧ Below w.heap.size w w' := by
  subst hx; exact part_any D0 D g gi cap a u w hD hD0 h1 h2 h3 c0
theorem cOf_0 (D B : Nat) (v : Value) (s : Int) (w : World) (h : Cnts w v D B) :
    Calls Tryd.prog 85 #[v, .int .i64 0, .int .i64 s] w fun e w' => e = .returned (.int .i64 (V 0 s)) ∧ w = w' := by
  rw [← Wi_V]
  exact cOf_any D B 0 v s w (Nat.zero_le _) h
theorem two_sum (a b : Int) : sumTo 2 (fun i => if i = 0 then a else b) = a + b := by simp [sumTo]
set_option maxHeartbeats 2000000 in
theorem numbersOfSum_any (n u : Int) (v : Value) (B : Nat) (w : World) (h0 : 0 ≤ n) (h1 : n ≤ 1000000000000) (hu0 : 0 ≤ u) (hu1 : u ≤ 9223372036854775807) (hC : Cnts w v 12 B) (htab : Tab w) :
    Calls Tryd.prog 71 #[v, .int .i64 n, .int .i64 u] w fun e w' => e = .returned (.int .i64 (uc u n)) ∧ Below w.heap.size w w' := by
  obtain ⟨s, hs⟩ := txt_ex n
  have HD := Lib.hid hs.dig
  have hsz := hs.size h1
  obtain ⟨hsz1, hsz2⟩ := hsz
  have HSL : Hid (s.data.toList.length = s.size) := by show _ = _; simp
  have HUC : Hid (uc u n = upa s.data.toList u s.size + V 0 (u - dsum s.data.toList) - V 0 u) := by
    show _ = _
    have e : s.size = (Lib.decDigits n.toNat).length := by rw [← hs]; simp
    unfold uc
    rw [e, ← upa_all, ← hs]
    rfl
  have HI := Lib.hid (fun W hW => decimals_any n s W h0 h1 hs (htab.keep hW))
  have HC := Lib.hid hC
  have hv := hC
  obtain ⟨g, cap, rfl, hgl, hx1, hx2⟩ := hv
  clear hx1 hx2
  have e44 : ∀ args w, (callFunc 90 args).run Tryd.prog w = .ok (.enter 90 args) w := enters_of Tryd.func90 (by kernel_rfl) rfl
  clear hs htab hC
  go_enter Tryd.func71, Tryd.ntmps71
  go_wp2_with fail
  have F0 := Blk.new w #[.int .i64 0] 3
  have H0 : Below w.heap.size w (w.alloc (.cells #[.int .i64 0] 3)) := by go_grown
  refine (HI.out _ H0).mono ?_
  rintro e w1 ⟨⟨gd, rfl, hrd, hgd⟩, b1⟩
  have HK0 := Lib.hid (F0.keep b1)
  have HRD := Lib.hid hrd
  have hb1 := H0.trans (b1.mono H0.size)
  have HGD : Hid (w.heap.size < gd) := by show _ < _; have : (w.alloc (.cells #[.int .i64 0] 3)).heap.size = w.heap.size + 1 := World.size_alloc _ _; omega
  obtain ⟨b, hb⟩ : ∃ b, b = w.heap.size := ⟨_, rfl⟩
  rw [← hb] at HK0 HGD ⊢
  have HBE : Hid (w.heap.size ≤ b) := by show _ ≤ _; omega
  have HBN : Hid (b < w1.heap.size) := HK0.out.lt
  clear hrd F0 H0 b1 hgd
  have HBW : Hid (∀ i, i < w.heap.size → i ≠ b) := fun i hi => by omega
  clear hb
  go_wp2_with fail
  go_loopw [10, 19] (fun lv kv wr => ∃ (k : Nat) (C q : Int), k ≤ s.size ∧ kv = .int .i64 k ∧ lv = .int .i64 (u - q) ∧ 0 ≤ q ∧ q ≤ 9 * (k : Int) ∧ Hid (q = dsum (s.data.toList.take k)) ∧ 0 ≤ C ∧ C ≤ 9000000000000 * (k : Int) ∧ Hid (C = upa s.data.toList u k) ∧ Hid (Blk wr b #[.int .i64 C] 3) ∧ Hid (IRow wr gd s.size (dj s)) ∧ Below w.heap.size w wr) (fun _ kv _ => s.size - (intOf kv).toNat)
  case atStart => exact ⟨0, 0, 0, by omega, rfl, by simp, by omega, by omega, rfl, by omega, by omega, rfl, HK0, HRD, hb1⟩
  case round =>
    obtain ⟨k, C, q, hk, rfl, rfl, hq0, hq1, HQ, hC0, hC1, HU, HK, HR, hbr⟩ := hrel
    obtain ⟨wo, rfl⟩ : ∃ wo : World, wo = wr := ⟨_, rfl⟩
    have hsw := hbr.size
    by_cases hlt : k < s.size
    · have hjb := dj_bd HD.out hlt
      obtain ⟨x, hx⟩ : ∃ x : Nat, dj s k = (x : Int) := ⟨(dj s k).toNat, by omega⟩
      have hx9 : x ≤ 9 := by omega
      have c2 := HR.out.cell hlt
      rw [hx] at c2
      obtain ⟨D, hD⟩ : ∃ D : Nat, (s.size : Int) - 1 - (k : Int) = (D : Int) := ⟨s.size - 1 - k, by omega⟩
      have hD12 : D ≤ 12 := by omega
      have HDD := Lib.hid hD
      obtain ⟨g', cap', hv', _, _, hrows⟩ := HC.out
      obtain ⟨gi, hgc, hgr, _⟩ := hrows D hD12
      have hgg : g' = g := by simp only [Value.slice.injEq, Option.some.injEq, Addr.mk.injEq] at hv'; exact hv'.1.1.symm
      rw [hgg] at hgc
      have HGC : Hid (wo.cell? ⟨g, D, none⟩ = some (.slice (some ⟨gi, 0, none⟩) (9 * D + 1) (9 * D + 1))) := (hbr.cell (p := ⟨g, D, none⟩) hgl).trans hgc
      have HGR := Lib.hid (hgr.below hbr hgr.lt)
      have HGN : Hid (gi ≠ b) := HBW.out gi hgr.lt
      have HC1 := Lib.hid hC1
      have HQ1 := Lib.hid hq1
      have hq2 : q ≤ 117 := by omega
      have hC2 : C ≤ 9000000000000 * 13 := by omega
      have hx0 : (0 : Int) ≤ (x : Int) := by omega
      have hx9' : (x : Int) ≤ 9 := by omega
      have f1 : IntKind.i64.wrap ((s.size : Int) - 1) = (s.size : Int) - 1 := by rw [IntWalk.i64_in] <;> omega
      have hxx := hx
      have HXX := Lib.hid hxx
      clear hjb hD hv' hrows hgc hgr hgg hC1 hq1 hx hxx
      go_wp2_with (go_at_call 91; refine (part_x 12 D g gi cap (u - q - (x : Int)) (u - q) _ _ HDD.out hD12 (by omega) (by omega) (by omega) (by omega) HGC.out).mono ?_; rintro e w2 ⟨rfl, b2⟩)
      obtain ⟨a, ha⟩ : ∃ a, a = (eP D (u - q - (x : Int))).toNat := ⟨_, rfl⟩
      obtain ⟨m, hm⟩ : ∃ m, m = (eP D (u - q)).toNat - (eP D (u - q - (x : Int))).toNat := ⟨_, rfl⟩
      have hap := eP_bd D (u - q - (x : Int))
      have hup := eP_bd D (u - q)
      have hps := ps_bd hD12 (u - q) x
      have hsp := sum_part D (u - q) x
      rw [← hm, ← ha] at hsp
      refine (adC_any b _ gi a _ (fun i => W D (a + i)) C w2 ?_ ?_ ?_ HGN.out (HK.out.keep b2) ?_ (by omega)).mono ?_
      · intro hn
        unfold adP
        rw [if_neg (by omega), ha]
      · omega
      · intro i hi
        exact (HGR.out.below b2 HGR.out.lt).cell (by omega)
      · intro i _
        have := W_12 hD12 (a + i)
        omega
      rintro e w3 ⟨rfl, hk3, hg3⟩
      have HK3 := Lib.hid hk3
      have hb2 : Below w.heap.size w w2 := hbr.trans (b2.mono hsw)
      have hb3 : Below w.heap.size w w3 := hb2.grown hg3 hb2.size (fun i hi => by cases hi; exact HBE.out)
      have HR3 : Hid (IRow w3 gd s.size (dj s)) := gb_irow hg3 (HR.out.below b2 HR.out.lt) (by have := HGD.out; omega)
      have HSM : Hid (C + sumTo ((eP D (u - q)).toNat - (eP D (u - q - (x : Int))).toNat) (fun i => W D (a + i)) = upa s.data.toList u (k + 1)) := by
        show _ = _
        have hxx := HXX.out
        unfold dj at hxx
        have hDD := HDD.out
        rw [← hm, hsp, upa, HSL.out, ← HU.out, ← HQ.out, hxx, Int.toNat_natCast, show s.size - 1 - k = D by omega]
      have HQ' : Hid (q + (x : Int) = dsum (s.data.toList.take (k + 1))) := by
        show _ = _
        have hxx := HXX.out
        unfold dj at hxx
        rw [take_dj s k hlt, dsum_snoc, ← HQ.out, hxx]
      have HCC : Hid (C + sumTo ((eP D (u - q)).toNat - (eP D (u - q - (x : Int))).toNat) (fun i => W D (a + i)) ≤ 9000000000000 * ((k + 1 : Nat) : Int) ∧ 0 ≤ C + sumTo ((eP D (u - q)).toNat - (eP D (u - q - (x : Int))).toNat) (fun i => W D (a + i))) := by
        show _ ∧ _
        have := HC1.out
        rw [← hm, hsp]
        omega
      clear hk3 hg3 hap hup hps hsp ha hm
      go_wp2
      go_roundw
      case rel => exact ⟨k + 1, _, q + (x : Int), by omega, by go_num, val_int (by omega), by omega, by have := HQ1.out; omega, HQ', HCC.out.2, HCC.out.1, HSM, HK3, HR3, hb3⟩
      case measure => simp [intOf]; omega
    · have hk13 : k ≤ 13 := by omega
      have hC2 : C ≤ 9000000000000 * 14 := by omega
      have hq2 : q ≤ 117 := by omega
      have hv1 := V_12 (n := 0) (by omega) (u - q)
      have hv2 := V_12 (n := 0) (by omega) u
      obtain ⟨y, hy⟩ : ∃ y, V 0 (u - q) = y := ⟨_, rfl⟩
      obtain ⟨z, hz⟩ : ∃ z, V 0 u = z := ⟨_, rfl⟩
      rw [hy] at hv1
      rw [hz] at hv2
      obtain ⟨hv10, hv11⟩ := hv1
      obtain ⟨hv20, hv21⟩ := hv2
      have HV : Hid (C + (y + -z) = uc u n) := by
        show _ = _
        rw [HUC.out, HU.out, show k = s.size by omega, ← hz, ← hy, HQ.out, show k = s.size by omega, take_all]
        omega
      have HCw := Lib.hid (HC.out.below hbr)
      have HO1 : Hid (Calls Tryd.prog 85 #[.slice (some ⟨g, 0, none⟩) 13 cap, .int .i64 0, .int .i64 (u - q)] wo fun e w' => e = .returned (.int .i64 y) ∧ wo = w') := by
        have := cOf_0 12 B _ (u - q) wo HCw.out
        rw [hy] at this
        exact this
      have HO2 : Hid (Calls Tryd.prog 85 #[.slice (some ⟨g, 0, none⟩) 13 cap, .int .i64 0, .int .i64 u] wo fun e w' => e = .returned (.int .i64 z) ∧ wo = w') := by
        have := cOf_0 12 B _ u wo HCw.out
        rw [hz] at this
        exact this
      have HBL := Lib.hid (HK.out.lt)
      clear hy hz hC1 hq1
      go_wp2_with (go_at_call 85; first | ((with_reducible refine HO1.out.mono ?_); rintro e w' ⟨rfl, rfl⟩) | ((with_reducible refine HO2.out.mono ?_); rintro e w' ⟨rfl, rfl⟩))
      refine (adC_any b 2 wo.heap.size 0 _ (fun i => if i = 0 then y else -z) C _ (fun _ => rfl) (by omega) ?_ (by have := HBL.out; omega) (HK.out.alloc _) ?_ (by omega)).mono ?_
      · intro i hi
        rcases (by omega : i = 0 ∨ i = 1) with rfl | rfl
        · simp
        · simp
      · intro i hi
        by_cases h : i = 0
        · simp only [if_pos h]; omega
        · simp only [if_neg h]; omega
      rintro e w3 ⟨rfl, hk3, hg3⟩
      rw [two_sum] at hk3
      have c3 := hk3.cell 0
      simp at c3
      have hb3 : Below w.heap.size w w3 := (hbr.alloc hsw _).grown hg3 (by simp; omega) (fun i hi => by cases hi; exact HBE.out)
      clear hk3 hg3
      go_wp2
      go_ret
      exact ⟨ret_int HV.out, hb3⟩
/-- The rows of counts for all numbers. -/
theorem newSums_any (w : World) (htab : Tab w) :
    Calls Tryd.prog 69 #[] w fun e w' => ∃ v, e = .returned v ∧ Cnts w' v 12 w.heap.size ∧ Below w.heap.size w w' := by
  obtain ⟨s, hs⟩ := txt_ex 1000000000000
  have hsz : s.size = 13 := by
    have e : s.size = (Lib.decDigits (Int.toNat 1000000000000)).length := by rw [← hs]; simp
    rw [e]; decide +kernel
  have HI := Lib.hid (decimals_any 1000000000000 s w (by omega) (by omega) hs htab)
  rw [hsz] at HI
  clear hs htab hsz
  go_enter Tryd.func69, Tryd.ntmps69
  go_wp2_with (first | (go_at_call 87; refine HI.out.mono ?_; rintro e w1 ⟨⟨gd, rfl, _, _⟩, b1⟩) | (go_at_call 84; refine (cnts_any 12 (by omega) _).mono ?_; rintro e w2 ⟨v, rfl, hc, b2⟩; have HC := Lib.hid hc; clear hc))
  go_ret
  have hs1 := b1.size
  obtain ⟨g, cap, hv, hg, hB, hr⟩ := HC.out
  exact ⟨v, rfl, ⟨g, cap, hv, hg, by omega, fun i hi => by obtain ⟨gi, k1, k2, k3⟩ := hr i hi; exact ⟨gi, k1, k2, by omega⟩⟩, chain b1 b2⟩
end Go.Proofs.YtghjpanabphbpaaDoor
