/-
  The model: all numbers that signed digits make, in order.
-/
import Derived.Test.YtlgleghofiflaabSgMade
import Derived.Test.YtlgleghofiflaabSgInts
import Derived.Test.YtlgleghofiflaabSgMs
namespace Go.Proofs.Ytlgleghofiflaab
open Go.RowKit

/-- All values, in the order of the texts. -/
def vals (plain : Bool) (s : ByteArray) : List Int := (allK plain s.data.toList (s.size - 1)).map sval
theorem least_at (x y m : Int) (w : World) (h : (if x < y then x else y) = m) :
    Calls Try.prog 42 #[.int .i64 x, .int .i64 y] w fun e w' => e = .returned (.int .i64 m) ∧ w = w' := by
  by_cases hxy : x < y
  · rw [if_pos hxy] at h
    subst h
    go_enter Try.func42, Try.ntmps42
    go_wp2
    go_ret
    exact ⟨rfl, rfl⟩
  · rw [if_neg hxy] at h
    subst h
    go_enter Try.func42, Try.ntmps42
    go_wp2
    go_ret
    exact ⟨rfl, rfl⟩
theorem new1 (w : World) (ty : TypeId) (v : Value) : (w.alloc (.cells #[v] ty)).cell? ⟨w.heap.size, 0, none⟩ = some v := by simp
theorem sz_dr (w : World) (n : Nat) (o : Obj) : w.heap.size ≤ ((w.drewN n).alloc o).heap.size := by
  rw [World.size_alloc]; exact Nat.le_succ _
theorem map_snoc {α β : Type} (f : α → β) (ts : List α) (k : Nat) (h : k < ts.length) : (ts.take (k + 1)).map f = (ts.take k).map f ++ [f ts[k]] := by
  rw [List.take_succ_eq_append_getElem h]; simp only [List.map_append, List.map_cons, List.map_nil]
set_option maxRecDepth 100000 in
set_option maxHeartbeats 8000000 in
theorem nums_any (s : ByteArray) (plain : Bool) (w : World) (hg : dgsB s.data.toList = true) :
    Calls Try.prog 25 #[.string s, .bool plain] w fun e w' => ∃ v, e = .returned v ∧ ∃ zs, Ints w.heap.size zs v w' ∧ zs.Perm (vals plain s) ∧ zs.Pairwise (fun a b => a ≤ b) ∧ Below w.heap.size w w' := by
  have HG := Lib.hid hg
  have hsl : s.data.toList.length = s.size := by simp
  have HSL := Lib.hid hsl
  obtain ⟨hl1, hl2, _⟩ := dgs_len hg
  rw [hsl] at hl1 hl2
  obtain ⟨ts, hts⟩ : ∃ ts, ts = allK plain s.data.toList (s.size - 1) := ⟨_, rfl⟩
  have HT := Lib.hid hts
  have hn : ts.length ≤ 4096 := by rw [hts]; exact allK_len_le _ _ _ (by omega)
  have hn0 : 0 < ts.length := by rw [hts, allK_len]; exact Nat.pow_pos (sgsN_pos plain)
  obtain ⟨n, hnn⟩ : ∃ n, n = ts.length := ⟨_, rfl⟩
  have HN := Lib.hid hnn
  rw [← hnn] at hn hn0
  have mixed : Try.prog.follows .mixedOrders = true := by kernel_rfl
  clear hg hsl hts hnn
  go_enter Try.func25, Try.ntmps25
  go_wp2_with (go_at_call 40; go_must ((with_reducible refine (sAll_any _ _ _ HG.out).mono ?_); rintro e w1 ⟨v, rfl, hst, hb1⟩; rw [← HT.out] at hst; rcases hst.form with ⟨_, h0⟩ | ⟨g, cap, rfl, _, hgl, hc, _⟩; (exfalso; rw [← HN.out] at h0; omega); rw [← HN.out]))
  have HC := Lib.hid hc
  have hz1 := hb1.size
  clear hst hc
  go_loopw [5, 19] (fun u i wr => ∃ (k : Nat) (us : List Int), k ≤ n ∧ i = .int .i64 k ∧ Hid (us = (ts.take k).map sval) ∧ Ints w1.heap.size us u wr ∧ Below w1.heap.size w1 wr) (fun _ i _ => n - (intOf i).toNat)
  case atStart => exact ⟨0, [], Nat.zero_le _, rfl, by show _ = _; simp, Ints.nil _ _, Below.refl _ _⟩
  case round =>
    obtain ⟨k, us, hk, rfl, HU, hus, hbq⟩ := hrel
    have HUS := Lib.hid hus
    have hqs := hbq.size
    by_cases hlt : k < n
    · clear hus
      have hlr : k < ts.length := by rw [← HN.out]; exact hlt
      obtain ⟨t, ht⟩ : ∃ t, t = ts[k] := ⟨_, rfl⟩
      have hck : wr.cell? ⟨g, k, none⟩ = some (.string ⟨t.toArray⟩) := by
        rw [(hbq.cell (p := ⟨g, k, none⟩) hgl), HC.out k hlr, ht, List.getD_eq_getElem?_getD, List.getElem?_eq_getElem hlr]; rfl
      have HNI : Hid (sigB t = true) := by
        have hm : t ∈ ts := by rw [ht]; exact List.getElem_mem _
        rw [HT.out, ← HSL.out] at hm
        exact nice_sig (allK_sig HG.out t hm) (by rw [HSL.out]; exact hl2)
      have HE : Hid (us ++ [sval t] = (ts.take (k + 1)).map sval) := by show _ = _; rw [map_snoc sval ts k hlr, HU.out, ht]
      have hul : us.length ≤ 4096 := by rw [HU.out, List.length_map]; exact Nat.le_trans (List.length_take_le _ _) (by omega)
      clear ht
      go_wp2_with (first | (go_at_call 41; go_must ((with_reducible refine (sval_t _ _ HNI.out).mono ?_); rintro e w' ⟨rfl, rfl⟩)) | (at_builtin; refine wpList_append_int _ rfl _ _ rfl w1.heap.size us _ rfl (HUS.out.alloc _) wr.heap.size (sval t) rfl (by simp) (by omega) (by simp; omega) ?_; intro v1 w2 hus1 hb2 _))
      have HU2 := Lib.hid hus1
      have hb3 : Below w1.heap.size w1 w2 := (hbq.trans (by go_grown)).trans hb2
      clear hus1 hb2
      go_wp2
      go_roundw
      case rel => exact ⟨k + 1, _, by omega, by go_num, HE, HU2.out, hb3⟩
      case measure => simp [intOf]; omega
    · have HUV : Hid (us = ts.map sval) := by show _ = _; rw [HU.out, List.take_of_length_le (by rw [← HN.out]; omega)]
      have hul : us.length = n := by rw [HUV.out, List.length_map, HN.out]
      rcases hus.form with ⟨_, _, _, h0⟩ | ⟨ga, capa, rfl, _, _, _, _⟩
      · exfalso; omega
      rw [hul]
      have HL := Lib.hid hul
      have HI0 : Hid (Ints w1.heap.size us (.slice (some ⟨ga, 0, none⟩) n capa) wr) := by
        have := HUS.out; rw [hul] at this; exact this
      clear hus HUS hul
      go_wp2
      rename World => wv
      go_loopw [5, 8] (fun o sz wr => ∃ (S : Nat) (zs : List Int) (gz capz : Nat), o = .slice (some ⟨gz, 0, none⟩) n capz ∧ sz = .int .i64 S ∧ Hid (1 ≤ S ∧ S ≤ 8192) ∧ Hid (Ints w1.heap.size zs (.slice (some ⟨gz, 0, none⟩) n capz) wr) ∧ Hid (zs.length = n ∧ zs.Perm (ts.map sval) ∧ Blk S zs) ∧ Below w1.heap.size w1 wr) (fun _ sz _ => n - (intOf sz).toNat)
      case atStart => exact ⟨1, us, ga, capa, rfl, rfl, ⟨Nat.le_refl _, by omega⟩, HI0.out, ⟨HL.out, by rw [HUV.out], blk_one _⟩, hbq⟩
      case round =>
        obtain ⟨S, zs, gz, capz, rfl, rfl, HS12, HI, HP, hbp⟩ := hrel
        obtain ⟨hS1, hS2⟩ := HS12.out
        rename World => wp
        have hps := hbp.size
        by_cases hlt2 : S < n
        · rcases HI.out.form with ⟨_, _, _, h0⟩ | ⟨ga2, capa2, hsl2, _, hgz, hcz, _⟩
          · exfalso; rw [HP.out.1] at h0; omega
          have hgz2 : gz < wp.heap.size := by
            have : gz = ga2 := by cases hsl2; rfl
            rw [this]; exact hgz
          have HCZ : Hid (∀ i, i < n → wp.cell? ⟨gz, i, none⟩ = some (.int .i64 (zs.getD i 0))) := by
            intro i hi
            have : gz = ga2 := by cases hsl2; rfl
            rw [this]
            exact hcz i (by rw [HP.out.1]; exact hi)
          clear hcz hsl2 hgz
          have hlt2' : (S : Int) < (n : Int) := by omega
          go_wp2
          go_loopw [9, 10] (fun u fv wr => ∃ (f : Nat) (ns : List Int), fv = .int .i64 f ∧ Hid (f ≤ 30000 ∧ f < n + 2 * S) ∧ Hid (Ints wp.heap.size ns u wr) ∧ Hid (Fr zs S f ns) ∧ Below wp.heap.size wp wr) (fun _ fv _ => n - (intOf fv).toNat)
          case atStart => exact ⟨0, [], rfl, ⟨by omega, by omega⟩, Ints.nil _ _, fr_start zs S, Below.refl _ _⟩
          case round =>
            obtain ⟨f, ns, rfl, HF2, HNS, HFR, hbf⟩ := hrel
            obtain ⟨hf3, hf4⟩ := HF2.out
            rename World => wf
            have hfs := hbf.size
            by_cases hfn : f < n
            · obtain ⟨mid, hmid⟩ : ∃ mid, mid = min (f + S) n := ⟨_, rfl⟩
              obtain ⟨en, hen⟩ : ∃ en, en = min (f + 2 * S) n := ⟨_, rfl⟩
              have HM1 : Hid ((if (f : Int) + (S : Int) < (n : Int) then (f : Int) + (S : Int) else (n : Int)) = (mid : Int)) := by show _ = _; split <;> omega
              have HM2 : Hid ((if (f : Int) + 2 * (S : Int) < (n : Int) then (f : Int) + 2 * (S : Int) else (n : Int)) = (en : Int)) := by show _ = _; split <;> omega
              have HLO : Hid (∀ a b, f ≤ a → a ≤ b → b < mid → zs.getD a 0 ≤ zs.getD b 0) := by rw [hmid]; exact blk_lo HP.out.1 HP.out.2.2 hS1 HFR.out.fm
              have HHI : Hid (∀ a b, mid ≤ a → a ≤ b → b < en → zs.getD a 0 ≤ zs.getD b 0) := by rw [hmid, hen]; exact blk_hi HP.out.1 HP.out.2.2 hS1 HFR.out.fm
              have HST : Hid (∀ ms, Mg (fun i => zs.getD i 0) f mid en mid en ms → Fr zs S (f + 2 * S) (ns ++ ms)) := by
                intro ms h
                rw [hmid, hen] at h
                have h2 := HP.out.1
                refine fr_step HFR.out hS1 (by omega) ?_
                rw [h2]; exact h
              have hfm : f ≤ mid := by omega
              have hme : mid ≤ en := by omega
              have hen2 : en ≤ n := by omega
              have hnsl : ns.length = f := by
                have h1 := HFR.out.pm.length_eq
                rw [sgm_len, HP.out.1] at h1; omega
              have HNL := Lib.hid hnsl
              have hfn' : (f : Int) < (n : Int) := by omega
              clear hmid hen hnsl
              go_wp2_with (first | (go_at_call 42; ((with_reducible refine (least_at _ _ mid _ HM1.out).mono ?_); rintro e w' ⟨rfl, rfl⟩)) | (go_at_call 42; go_must ((with_reducible refine (least_at _ _ en _ HM2.out).mono ?_); rintro e w' ⟨rfl, rfl⟩)))
              go_loopw [9, 13, 14] (fun u iv kv wr => ∃ (i k : Nat) (ms : List Int), iv = .int .i64 i ∧ kv = .int .i64 k ∧ f ≤ i ∧ i ≤ mid ∧ mid ≤ k ∧ k ≤ en ∧ Hid (Ints wp.heap.size (ns ++ ms) u wr) ∧ Hid (Mg (fun i => zs.getD i 0) f mid en i k ms) ∧ Below wp.heap.size wp wr) (fun _ iv kv _ => (mid - (intOf iv).toNat) + (en - (intOf kv).toNat))
              case atStart => exact ⟨f, mid, [], rfl, rfl, Nat.le_refl _, hfm, Nat.le_refl _, hme, by show Ints _ _ _ _; rw [List.append_nil]; exact HNS.out, mg_start _ hfm hme, hbf⟩
              case round =>
                obtain ⟨i, k, ms, rfl, rfl, hi1, hi2, hk1, hk2, HMS, HMG, hbm⟩ := hrel
                have hms := hbm.size
                have hml : (ns ++ ms).length ≤ 8192 := by
                  have h1 := HMG.out.pm.length_eq
                  rw [List.length_append, sgm_len, sgm_len] at h1
                  rw [List.length_append, HNL.out]; omega
                have hi0 : (0 : Int) ≤ (i : Int) := by omega
                have hk0 : (0 : Int) ≤ (k : Int) := by omega
                by_cases hi : i < mid
                · obtain ⟨a, ha⟩ : ∃ a, zs.getD i 0 = a := ⟨_, rfl⟩
                  have hca : wr.cell? ⟨gz, i, none⟩ = some (.int .i64 a) := by rw [(hbm.cell (p := ⟨gz, i, none⟩) hgz2), HCZ.out i (by omega), ha]
                  have hi' : (i : Int) < (mid : Int) := by omega
                  have hin : (i : Int) < (n : Int) := by omega
                  by_cases hk : k < en
                  · obtain ⟨b, hb⟩ : ∃ b, zs.getD k 0 = b := ⟨_, rfl⟩
                    have hcb : wr.cell? ⟨gz, k, none⟩ = some (.int .i64 b) := by rw [(hbm.cell (p := ⟨gz, k, none⟩) hgz2), HCZ.out k (by omega), hb]
                    have hke : ((k : Int) == (en : Int)) = false := by simp; omega
                    have hke2 : decide ((k : Int) = (en : Int)) = false := by simp; omega
                    have hkn : (k : Int) < (n : Int) := by omega
                    by_cases hab : a ≤ b
                    · have HMG2 : Hid (Mg (fun i => zs.getD i 0) f mid en (i + 1) k (ms ++ [a])) := by
                        have := mg_left HMG.out HLO.out hi (fun _ => by show zs.getD i 0 ≤ zs.getD k 0; rw [ha, hb]; exact hab)
                        simp only [ha] at this; exact this
                      clear ha hb
                      go_wp2
                      go_quiet (fail)
                      go_wp2_with (at_builtin; refine wpList_append_int _ rfl _ _ rfl wp.heap.size (ns ++ ms) _ rfl ((HMS.out.drewN nq).alloc _) _ a rfl (new1 _ _ _) (by omega) (Nat.le_trans hms (sz_dr wr nq _)) ?_; intro v1 w2 hus1 hb2 _)
                      have HU2 : Hid (Ints wp.heap.size (ns ++ (ms ++ [a])) v1 w2) := by show Ints _ _ _ _; rw [← List.append_assoc]; exact hus1
                      have hb3 : Below wp.heap.size wp w2 := ((below_drewN hbm nq).alloc hms _).trans hb2
                      clear hus1 hb2
                      go_wp2
                      go_roundw
                      case rel => exact ⟨i + 1, k, ms ++ [a], by go_num, by go_num, by omega, by omega, by omega, by omega, HU2.out, HMG2.out, hb3⟩
                      case measure => simp [intOf]; omega
                    · have HMG2 : Hid (Mg (fun i => zs.getD i 0) f mid en i (k + 1) (ms ++ [b])) := by
                        have := mg_right HMG.out HHI.out hk (fun _ => by show zs.getD k 0 ≤ zs.getD i 0; rw [ha, hb]; omega)
                        simp only [hb] at this; exact this
                      clear ha hb
                      go_wp2
                      go_quiet (fail)
                      go_wp2_with (at_builtin; refine wpList_append_int _ rfl _ _ rfl wp.heap.size (ns ++ ms) _ rfl ((HMS.out.drewN nq).alloc _) _ b rfl (new1 _ _ _) (by omega) (Nat.le_trans hms (sz_dr wr nq _)) ?_; intro v1 w2 hus1 hb2 _)
                      have HU2 : Hid (Ints wp.heap.size (ns ++ (ms ++ [b])) v1 w2) := by show Ints _ _ _ _; rw [← List.append_assoc]; exact hus1
                      have hb3 : Below wp.heap.size wp w2 := ((below_drewN hbm nq).alloc hms _).trans hb2
                      clear hus1 hb2
                      go_wp2
                      go_roundw
                      case rel => exact ⟨i, k + 1, ms ++ [b], by go_num, by go_num, by omega, by omega, by omega, by omega, HU2.out, HMG2.out, hb3⟩
                      case measure => simp [intOf]; omega
                  · have hke : ((k : Int) == (en : Int)) = true := by simp; omega
                    have hke2 : decide ((k : Int) = (en : Int)) = true := by simp; omega
                    have HMG2 : Hid (Mg (fun i => zs.getD i 0) f mid en (i + 1) k (ms ++ [a])) := by
                      have := mg_left HMG.out HLO.out hi (fun h => absurd h hk)
                      simp only [ha] at this; exact this
                    clear ha
                    go_wp2
                    go_quiet (fail)
                    go_wp2_with (at_builtin; refine wpList_append_int _ rfl _ _ rfl wp.heap.size (ns ++ ms) _ rfl ((HMS.out.drewN nq).alloc _) _ a rfl (new1 _ _ _) (by omega) (Nat.le_trans hms (sz_dr wr nq _)) ?_; intro v1 w2 hus1 hb2 _)
                    have HU2 : Hid (Ints wp.heap.size (ns ++ (ms ++ [a])) v1 w2) := by show Ints _ _ _ _; rw [← List.append_assoc]; exact hus1
                    have hb3 : Below wp.heap.size wp w2 := ((below_drewN hbm nq).alloc hms _).trans hb2
                    clear hus1 hb2
                    go_wp2
                    go_roundw
                    case rel => exact ⟨i + 1, k, ms ++ [a], by go_num, by go_num, by omega, by omega, by omega, by omega, HU2.out, HMG2.out, hb3⟩
                    case measure => simp [intOf]; omega
                · have hi' : ¬ (i : Int) < (mid : Int) := by omega
                  by_cases hk : k < en
                  · obtain ⟨b, hb⟩ : ∃ b, zs.getD k 0 = b := ⟨_, rfl⟩
                    have hcb : wr.cell? ⟨gz, k, none⟩ = some (.int .i64 b) := by rw [(hbm.cell (p := ⟨gz, k, none⟩) hgz2), HCZ.out k (by omega), hb]
                    have hke : ((k : Int) == (en : Int)) = false := by simp; omega
                    have hke2 : decide ((k : Int) = (en : Int)) = false := by simp; omega
                    have hid2 : decide ((i : Int) < (mid : Int)) = false := by simp; omega
                    have hkn : (k : Int) < (n : Int) := by omega
                    have HMG2 : Hid (Mg (fun i => zs.getD i 0) f mid en i (k + 1) (ms ++ [b])) := by
                      have := mg_right HMG.out HHI.out hk (fun h => absurd h hi)
                      simp only [hb] at this; exact this
                    clear hb
                    go_wp2
                    go_quiet (fail)
                    go_wp2_with (at_builtin; refine wpList_append_int _ rfl _ _ rfl wp.heap.size (ns ++ ms) _ rfl ((HMS.out.drewN nq).alloc _) _ b rfl (new1 _ _ _) (by omega) (Nat.le_trans hms (sz_dr wr nq _)) ?_; intro v1 w2 hus1 hb2 _)
                    have HU2 : Hid (Ints wp.heap.size (ns ++ (ms ++ [b])) v1 w2) := by show Ints _ _ _ _; rw [← List.append_assoc]; exact hus1
                    have hb3 : Below wp.heap.size wp w2 := ((below_drewN hbm nq).alloc hms _).trans hb2
                    clear hus1 hb2
                    go_wp2
                    go_roundw
                    case rel => exact ⟨i, k + 1, ms ++ [b], by go_num, by go_num, by omega, by omega, by omega, by omega, HU2.out, HMG2.out, hb3⟩
                    case measure => simp [intOf]; omega
                  · have HEND : Hid (Fr zs S (f + 2 * S) (ns ++ ms)) := HST.out ms (by have := HMG.out; rw [show i = mid by omega, show k = en by omega] at this; exact this)
                    have hk' : ¬ (k : Int) < (en : Int) := by omega
                    go_wp2
                    go_roundw
                    case rel => exact ⟨f + 2 * S, ns ++ ms, by go_num, ⟨by omega, by omega⟩, HMS.out, HEND.out, hbm⟩
                    case measure => simp [intOf]; omega
            · have HFE := Lib.hid (fr_end HFR.out (by rw [HP.out.1]; omega))
              have HNL : Hid (ns.length = n) := by show _ = _; rw [HFE.out.1.length_eq, HP.out.1]
              rcases HNS.out.form with ⟨_, _, _, h0⟩ | ⟨gn, capn, rfl, _, _, _, _⟩
              · exfalso; rw [HNL.out] at h0; omega
              rw [HNL.out]
              have HI2 : Hid (Ints w1.heap.size ns (.slice (some ⟨gn, 0, none⟩) n capn) wf) := by
                have := HNS.out; rw [HNL.out] at this; exact this.mono hps
              have hfn' : ¬ (f : Int) < (n : Int) := by omega
              go_wp2
              go_roundw
              case rel => exact ⟨2 * S, ns, gn, capn, rfl, by go_num, ⟨by omega, by omega⟩, HI2.out, ⟨HNL.out, HFE.out.1.trans HP.out.2.1, HFE.out.2⟩, hbp.trans (hbf.mono hps)⟩
              case measure => simp [intOf]; omega
        · have hlt2' : ¬ (S : Int) < (n : Int) := by omega
          go_wp2
          go_ret
          refine ⟨_, rfl, zs, ?_, ?_, ?_, hb1.trans (hbp.mono hz1)⟩
          · have h1 := HI.out
            exact h1.mono hz1
          · have := HP.out.2.1; rw [HT.out] at this; exact this
          · exact blk_all HP.out.2.2 (by rw [HP.out.1]; omega)
end Go.Proofs.Ytlgleghofiflaab
