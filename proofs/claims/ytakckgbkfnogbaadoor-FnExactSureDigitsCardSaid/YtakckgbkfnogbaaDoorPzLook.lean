/-
  All solutions, as the model finds them.
-/
import Derived.Test.YtakckgbkfnogbaaDoorPzSol
namespace Go.Proofs.YtakckgbkfnogbaaDoor
open Go.RowKit
set_option maxRecDepth 100000

/-- A box holds the slice of these texts. -/
def OutIs (base pb : Nat) (ts : List (List UInt8)) (w : World) : Prop := ∃ v, Blk w pb #[v] 33 ∧ Strs base ts v w ∧ v.ownBlock ≠ some pb
theorem OutIs.below {base pb : Nat} {ts : List (List UInt8)} {w w' : World} (h : OutIs base pb ts w) (k : Below w.heap.size w w') : OutIs base pb ts w' := by
  obtain ⟨v, h1, h2, h3⟩ := h
  exact ⟨v, h1.keep k, h2.below k, h3⟩
def hR (cs : List Cl) (n : Nat) (b : List UInt8) (d : Nat) : List (List UInt8) := (List.range d).flatMap (fun d => hS cs n (b ++ [dc d]))
theorem hR_succ (cs : List Cl) (n : Nat) (b : List UInt8) (d : Nat) : hR cs n b (d + 1) = hR cs n b d ++ hS cs n (b ++ [dc d]) := by simp [hR, List.range_succ]
theorem hE_len (n : Nat) : ∀ b, (hE n b).length = 6 ^ n := by
  induction n with
  | zero => intro b; rfl
  | succ n ih =>
    intro b
    simp only [hE, List.length_flatMap, ih]
    rw [List.map_const', List.sum_replicate_nat, List.length_range, Nat.pow_succ, Nat.mul_comm]
theorem hS_len (cs : List Cl) (n : Nat) (b : List UInt8) : (hS cs n b).length ≤ 6 ^ n := by
  have := List.length_filter_le (fitA cs) (hE n b)
  rw [hE_len] at this; exact this
theorem hR_len (cs : List Cl) (n : Nat) (b : List UInt8) (d : Nat) : (hR cs n b d).length ≤ d * 6 ^ n := by
  induction d with
  | zero => simp [hR]
  | succ d ih =>
    rw [hR_succ, List.length_append, Nat.succ_mul]
    have := hS_len cs n (b ++ [dc d]); omega
theorem pzFits_b (c : Cl) (s : ByteArray) (x : Bool) (w : World) (hc : clP c) (hh : hidB s.data.toList = true) (hx : fitB c s.data.toList = x) :
    Calls Tryd.prog 40 #[.agg #[.int .i64 c.k, .int .i64 c.a, .int .i64 c.b], .string s] w fun e w' => e = .returned (.bool x) ∧ Below w.heap.size w w' := by subst hx; exact pzFits_any c s w hc hh
theorem grown_set {w : World} {b : Nat} (i : Nat) (v : Value) : w.grownBy (w.setCell ⟨b, i, none⟩ v) (some b) :=
  ⟨rfl, rfl, rfl, by simp [World.setCell], fun k _ hk => heap_setCell_other w ⟨b, i, none⟩ k v (fun e => hk (by simp [e]))⟩
set_option maxHeartbeats 4000000 in
theorem look0 (cs : List Cl) (a : Option Addr) (cap base pb : Nat) (hn : cs.length ≤ 1000) (hall : AllC cs) (b : List UInt8) (S : ByteArray) (ts : List (List UInt8)) (w : World) (hS : S = ⟨b.toArray⟩) (hb : hidB b = true) (htl : ts.length ≤ 2000) (hpb : base ≤ pb)
    (hV : ∀ W, Below base w W → RdC cs (.slice a cs.length cap) W) (hO : OutIs base pb ts w) :
    Calls Tryd.prog 65 #[.slice a cs.length cap, .string S, .pointer (some ⟨pb, 0, none⟩)] w fun e w' => e = .returned (.tuple #[]) ∧ OutIs base pb (ts ++ (if fitA cs b then [b] else [])) w' ∧ Below base w w' := by
  obtain ⟨rs, hrs⟩ : ∃ rs, ts ++ (if fitA cs b then [b] else []) = rs := ⟨_, rfl⟩
  rw [hrs]
  have HRS := Lib.hid hrs
  clear hrs
  have hSl : S.data.toList = b := by rw [hS]
  have hh : hidB S.data.toList = true := by rw [hSl]; exact hb
  have hsz := (hid_at hh).1
  have HH := Lib.hid hh
  have HSL := Lib.hid hSl
  have HSE := Lib.hid hS
  have HA := Lib.hid hall
  have HV := Lib.hid hV
  have hbw : base ≤ w.heap.size := by obtain ⟨v, h1, _⟩ := hO; have := h1.lt; omega
  have HO := Lib.hid hO
  obtain ⟨n, hnn⟩ : ∃ n, n = cs.length := ⟨_, rfl⟩
  have HN := Lib.hid hnn
  rw [← hnn] at hn HV
  rw [← hnn]
  have hs4 : ¬ (S.size : Int) < 4 := by omega
  have HSZ := Lib.hid hsz
  clear hSl hh hS hall hV hO hnn hb hsz
  go_enter Tryd.func65, Tryd.ntmps65
  go_wp2
  go_loopw [25] (fun i wr => ∃ k : Nat, k ≤ n ∧ i = .int .i64 k ∧ Hid (∀ j, j < k → fitB (cs.getD j c0) S.data.toList = true) ∧ Below w.heap.size w wr) (fun i _ => n - (intOf i).toNat)
  case atStart => exact ⟨0, Nat.zero_le _, rfl, fun j hj => by omega, Below.refl _ _⟩
  case round =>
    obtain ⟨k, hk, rfl, HI, hbl⟩ := hrel
    obtain ⟨wo, rfl⟩ : ∃ wo : World, wo = wr := ⟨_, rfl⟩
    have hsz := hbl.size
    by_cases hlt : k < n
    · have hlt2 : k < cs.length := by rw [← HN.out]; exact hlt
      obtain ⟨a', cap', hav, _, hc⟩ := HV.out wo (hbl.mono hbw)
      simp only [Value.slice.injEq] at hav
      obtain ⟨rfl, hqq, rfl⟩ := hav
      clear hqq
      obtain ⟨g, o, rfl, hg, e0, e1, e2⟩ := hc k hlt2
      have HCL := Lib.hid (HA.out k hlt2)
      clear hc
      cases hf : fitB (cs.getD k c0) S.data.toList with
      | true =>
        have HI2 : Hid (∀ j, j < k + 1 → fitB (cs.getD j c0) S.data.toList = true) := by
          intro j hj
          by_cases e : j = k
          · subst e; exact hf
          · exact HI.out j (by omega)
        obtain ⟨c, hcc⟩ : ∃ c, c = cs.getD k c0 := ⟨_, rfl⟩
        rw [← hcc] at e0 e1 e2 HCL hf
        have HF := Lib.hid hf
        clear hf hcc
        go_wp2_with (go_at_call 40; (with_reducible refine (pzFits_b c S true _ HCL.out HH.out HF.out).mono ?_); rintro e w1 ⟨rfl, b1⟩; have B1 := chain (w := wo) (by go_grown) b1)
        go_roundw
        case rel => exact ⟨k + 1, by omega, by go_num, HI2, hbl.trans (B1.mono hsz)⟩
        case measure => simp [intOf]; omega
      | false =>
        have HNO := Lib.hid (fitA_no hlt2 hf)
        obtain ⟨c, hcc⟩ : ∃ c, c = cs.getD k c0 := ⟨_, rfl⟩
        rw [← hcc] at e0 e1 e2 HCL hf
        have HF := Lib.hid hf
        clear hf hcc
        go_wp2_with (go_at_call 40; (with_reducible refine (pzFits_b c S false _ HCL.out HH.out HF.out).mono ?_); rintro e w1 ⟨rfl, b1⟩; have B1 := chain (w := wo) (by go_grown) b1)
        have B2 := hbl.trans (B1.mono hsz)
        refine bodyPost_ret (results_none rfl _ _ _) rfl ⟨rfl, ?_, B2.mono hbw⟩
        rw [← HRS.out, if_neg (by rw [← HSL.out, HNO.out]; simp), List.append_nil]
        exact HO.out.below B2
    · have HYES : Hid (fitA cs b = true) := by rw [← HSL.out]; exact fitA_yes (fun j hj => HI.out j (by have := HN.out; omega))
      obtain ⟨v, q1, q2, q3⟩ := HO.out.below hbl
      have f0 : wo.cell? ⟨pb, 0, none⟩ = some v := by rw [q1.cell]; rfl
      have f1 : wo.frozen? ⟨pb, 0, none⟩ = false := q1.frozen 0
      have f2 : pb < wo.heap.size := q1.lt
      have Q1 := Lib.hid q1
      have Q2 := Lib.hid q2
      have Q3 := Lib.hid q3
      clear q1 q2 q3
      obtain ⟨av, cv, rfl⟩ := Q2.out.val
      go_wp2_with (at_builtin; refine append_str1 _ rfl _ _ rfl base ts _ rfl (Q2.out.alloc _) wo.heap.size S b rfl (by simp) HSE.out (by omega) (by simp only [World.size_alloc]; omega) ?_; intro v3 w3 u3 g3 o3; have h9 : w3.cell? ⟨pb, 0, none⟩ = some (.slice av ts.length cv) := g3.cell ((((Below.refl wo.heap.size wo).alloc (Nat.le_refl _) _).cell (p := ⟨pb, 0, none⟩) f2).trans f0) (fun e => Q3.out e.symm); have h8 : w3.frozen? ⟨pb, 0, none⟩ = false := (World.frozen?_of_block (g3.block pb (by simp only [World.size_alloc]; omega) (fun e => Q3.out e.symm))).trans ((((Below.refl wo.heap.size wo).alloc (Nat.le_refl _) _).frozen (p := ⟨pb, 0, none⟩) f2).trans f1); obtain ⟨av3, cv3, rfl⟩ := u3.val)
      have hz3 := g3.size
      simp only [World.size_alloc] at hz3
      have B3 : Below base w w3 := (((hbl.mono hbw).alloc (by omega) (.cells #[.string S] 9)).grown g3 (by simp only [World.size_alloc]; omega) (fun q hq => (World.ownsRow.lt Q2.out q hq).1))
      have hblk : w3.heap[pb]? = some (.cells #[.slice av ts.length cv] 33 (0, 0)) := by
        rw [g3.block pb (by simp only [World.size_alloc]; omega) (fun e => Q3.out e.symm), Lib.alloc_old _ _ _ (by omega)]
        exact Q1.out
      have u4 : Strs base rs (.slice av3 (ts.length + 1) cv3) w3 := by
        have h := u3
        rw [List.length_append] at h
        rw [← HRS.out, if_pos HYES.out]; exact h
      have hne : (Value.slice av3 (ts.length + 1) cv3).ownBlock ≠ some pb := by
        rw [List.length_append] at o3
        rcases o3 with e | e
        · intro h; exact Q3.out (e.symm.trans h)
        · intro h
          have := e.symm.trans h
          simp only [World.size_alloc, Option.some.injEq] at this
          omega
      go_end0
      refine ⟨rfl, ⟨.slice av3 (ts.length + 1) cv3, ?_, ?_, hne⟩, B3.setCell (by simp only; omega) _⟩
      · have := heap_setCell_same w3 pb 0 _ _ (.slice av3 (ts.length + 1) cv3) hblk
        simpa [Blk] using this
      · exact u4.kp (grown_set 0 _) hne
set_option maxHeartbeats 4000000 in
theorem look_any (cs : List Cl) (a : Option Addr) (cap base pb : Nat) (hn : cs.length ≤ 1000) (hall : AllC cs) (hpb : base ≤ pb) : ∀ (n : Nat) (b : List UInt8) (S : ByteArray) (ts : List (List UInt8)) (w : World), S = ⟨b.toArray⟩ → b.length + n = 4 → b.all hdB = true → ts.length + 6 ^ n ≤ 2000 →
    (∀ W, Below base w W → RdC cs (.slice a cs.length cap) W) → OutIs base pb ts w →
    Calls Tryd.prog 65 #[.slice a cs.length cap, .string S, .pointer (some ⟨pb, 0, none⟩)] w fun e w' => e = .returned (.tuple #[]) ∧ OutIs base pb (ts ++ hS cs n b) w' ∧ Below base w w' := by
  intro n
  induction n with
  | zero =>
    intro b S ts w hSq hl hb htl hV hO
    have hh : hidB b = true := by unfold hidB; rw [decide_eq_true (by omega), hb]; rfl
    rw [hS_zero]
    exact look0 cs a cap base pb hn hall b S ts w hSq hh (by simp at htl; omega) hpb hV hO
  | succ n ih =>
    intro b S ts w hSq hl hb htl hV hO
    have hSz : S.size = b.length := by rw [hSq]; simp [ByteArray.size]
    have hs4 : (S.size : Int) < 4 := by omega
    have hS4 : S.size ≤ 4 := by omega
    rw [hS_succ]
    have h6 : 6 ^ (n + 1) = 6 * 6 ^ n := by rw [Nat.pow_succ, Nat.mul_comm]
    rw [h6] at htl
    obtain ⟨P, hP⟩ : ∃ P, P = 6 ^ n := ⟨_, rfl⟩
    rw [← hP] at htl ih
    have hbw : base ≤ w.heap.size := by obtain ⟨v, h1, _⟩ := hO; have := h1.lt; omega
    obtain ⟨rs, hrs⟩ : ∃ rs, ts ++ (List.range 6).flatMap (fun d => hS cs n (b ++ [dc d])) = rs := ⟨_, rfl⟩
    rw [hrs]
    have HRS : Hid (ts ++ hR cs n b 6 = rs) := hrs
    have HI := Lib.hid ih
    have HSE := Lib.hid hSq
    have HBA := Lib.hid hb
    have HL := Lib.hid hl
    have HV := Lib.hid hV
    have HPP := Lib.hid hP
    have HO0 : Hid (OutIs base pb (ts ++ hR cs n b 0) w) := by show OutIs _ _ _ _; simpa [hR] using hO
    clear ih hSq hb hl hV hO hrs hP h6 hSz
    go_enter Tryd.func65, Tryd.ntmps65
    go_wp2
    go_loopw [6] (fun i wr => ∃ d : Nat, d ≤ 6 ∧ i = .int .i64 d ∧ Hid (OutIs base pb (ts ++ hR cs n b d) wr) ∧ Below base w wr) (fun i _ => 6 - (intOf i).toNat)
    case atStart => exact ⟨0, Nat.zero_le _, rfl, HO0, Below.refl _ _⟩
    case round =>
      clear HO0
      obtain ⟨d, hd, rfl, HO, hbl⟩ := hrel
      obtain ⟨wo, rfl⟩ : ∃ wo : World, wo = wr := ⟨_, rfl⟩
      have hsz := hbl.size
      by_cases hlt : d < 6
      · have hdI : (d : Int) ≤ 5 := by omega
        obtain ⟨D, hDD⟩ : ∃ D : ByteArray, (⟨#[dc d]⟩ : ByteArray) = D := ⟨_, rfl⟩
        have HD := fun W => Lib.hid (l1Num_d d W (by omega))
        rw [hDD] at HD
        have hDs : D.size = 1 := by rw [← hDD]; rfl
        have HX : Hid (S ++ D = ⟨(b ++ [dc d]).toArray⟩) := by show _ = _; rw [HSE.out, ← hDD]; exact str_two b [dc d]
        have HRR : Hid ((ts ++ hR cs n b d) ++ hS cs n (b ++ [dc d]) = ts ++ hR cs n b (d + 1)) := by show _ = _; rw [hR_succ, List.append_assoc]
        have hrl := hR_len cs n b d
        rw [← HPP.out] at hrl
        have hrl2 : d * P ≤ 5 * P := Nat.mul_le_mul_right P (by omega)
        have HLEN : Hid ((ts ++ hR cs n b d).length + P ≤ 2000) := by show _ ≤ _; rw [List.length_append]; omega
        have hq : ∀ W, Below base wo W → OutIs base pb (ts ++ hR cs n b d) W → Calls Tryd.prog 65 #[.slice a cs.length cap, .string (S ++ D), .pointer (some ⟨pb, 0, none⟩)] W fun e w' => e = .returned (.tuple #[]) ∧ OutIs base pb ((ts ++ hR cs n b d) ++ hS cs n (b ++ [dc d])) w' ∧ Below base W w' := by
          intro W hW hOW
          refine HI.out (b ++ [dc d]) (S ++ D) (ts ++ hR cs n b d) W HX.out ?_ ?_ HLEN.out (fun W' hW' => HV.out W' ((hbl.trans hW).trans hW')) hOW
          · rw [List.length_append, List.length_singleton]; have := HL.out; omega
          · rw [List.all_append, HBA.out]; simp [hdB_dc hlt]
        have HQ := Lib.hid hq
        have hwb : base ≤ wo.heap.size := by omega
        clear hDD hq hrl hrl2
        go_wp2_with (first
          | (go_at_call 85; (with_reducible refine (HD _).out.mono ?_); rintro e w1 ⟨rfl, b1⟩)
          | (go_at_call 65; (refine (HQ.out _ (b1.mono hwb) (HO.out.below b1)).mono ?_); rintro e w2 ⟨rfl, o2, b2⟩))
        go_roundw
        case rel => exact ⟨d + 1, by omega, by go_num, by show OutIs _ _ _ _; rw [← HRR.out]; exact o2, (hbl.trans (b1.mono hwb)).trans b2⟩
        case measure => simp [intOf]; omega
      · have HE : Hid (ts ++ hR cs n b d = rs) := by show _ = _; rw [show d = 6 by omega, HRS.out]
        go_wp2
        refine bodyPost_ret (results_none rfl _ _ _) rfl ⟨rfl, ?_, hbl⟩
        rw [← HE.out]; exact HO.out
set_option maxHeartbeats 2000000 in
theorem pzAll_any (cs : List Cl) (v : Value) (w : World) (hn : cs.length ≤ 1000) (hall : AllC cs) (h : RdC cs v w) :
    Calls Tryd.prog 46 #[v] w fun e w' => (∃ u, e = .returned u ∧ Strs w.heap.size (sol cs) u w') ∧ Below w.heap.size w w' := by
  have HV := Lib.hid h
  obtain ⟨a, cap, rfl, _⟩ := h
  obtain ⟨n, hnn⟩ : ∃ n, n = cs.length := ⟨_, rfl⟩
  have h0 : OutIs w.heap.size w.heap.size [] (w.alloc (.cells #[.slice none 0 0] 33)) := ⟨.slice none 0 0, Blk.new _ _ _, Strs.nil _ _, by simp [Value.ownBlock]⟩
  have hl := look_any cs a cap w.heap.size w.heap.size hn hall (Nat.le_refl _) 4 [] ⟨#[]⟩ [] (w.alloc (.cells #[.slice none 0 0] 33)) rfl rfl rfl (by decide) (fun W hW => HV.out.below (((Below.refl w.heap.size w).alloc (Nat.le_refl _) _).trans hW)) h0
  rw [hS_sol, List.nil_append] at hl
  have HL := Lib.hid hl
  clear hl h0
  go_enter Tryd.func46, Tryd.ntmps46
  go_wp2_with (go_at_call 65; (refine HL.out.mono ?_); rintro e w1 ⟨rfl, ⟨u, q1, q2, q3⟩, b1⟩; have e0 : w1.cell? ⟨w.heap.size, 0, none⟩ = some u := (q1.cell 0).trans rfl; have hl1 := q1.lt)
  go_ret
  exact ⟨⟨_, rfl, q2⟩, ((Below.refl w.heap.size w).alloc (Nat.le_refl _) _).trans b1⟩
theorem solved_any (cs : List Cl) (v : Value) (w : World) (hn : cs.length ≤ 1000) (hall : AllC cs) (h : RdC cs v w) :
    Calls Tryd.prog 53 #[v] w fun e w' => e = .returned (.bool (decide ((sol cs).length = 1))) ∧ Below w.heap.size w w' := by
  have HS := Lib.hid (pzAll_any cs v w hn hall h)
  clear h hn hall
  go_enter Tryd.func53, Tryd.ntmps53
  go_wp2_with (go_at_call 46; (refine HS.out.mono ?_); rintro e w1 ⟨⟨u, rfl, hu⟩, b1⟩; obtain ⟨a, cap, rfl⟩ := hu.val)
  go_ret
  exact ⟨ret_bool (by rw [Bool.eq_iff_iff]; simp; try omega), b1⟩
end Go.Proofs.YtakckgbkfnogbaaDoor
