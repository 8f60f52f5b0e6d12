/-
  The digits that make a number sound in a place, over a channel.
-/
import Derived.Test.YtdjcgddcgjbboaaDoorSlDg
import Derived.Test.YtdjcgddcgjbboaaDoorSlNx
import Derived.Test.YtdjcgddcgjbboaaDoorSlLawI
namespace Go.Proofs.YtdjcgddcgjbboaaDoor
open Go.RowKit Go.Conc

theorem mkc (w : World) : (Instr.makeChan 89 (.int .i64 10)).run Tryd.prog w = .ok (.chan (some w.heap.size)) (w.alloc (.chan 10 #[] false 0 0 false)) := by
  have h : (Tryd.prog.info? 3).map (·.bytes) = some 8 := by kernel_rfl
  obtain ⟨i, hi, hb⟩ := Option.map_eq_some_iff.1 h
  simpa using run_makeChan (P := Tryd.prog) (w := w) Tryd.underlying89 hi .i64 10 (by omega) (by rw [hb]; omega)
theorem cell_setChan (w : World) (b i c cap : Nat) (buf : Array Value) (cl : Bool) (s r : Nat) (tm : Bool) (h : b < c) : (w.setChan c cap buf cl s r tm).cell? ⟨b, i, none⟩ = w.cell? ⟨b, i, none⟩ :=
  (below_setChan (Below.refl c w) (Nat.le_refl _) cap buf cl s r tm).cell (p := ⟨b, i, none⟩) h
/-- A piece of code by the walk over code, within a walk of the machine of one. -/
theorem lone_of_wp {P : Program} {c : Code} {Q' : Exit → Act → World → Prop} {R : Act → World → Prop} {Qf : Goroutine → World → Prop} {a : Act} {w : World} {b : Frame} {k : List Item} {cs : List Frame}
    (h : c.wp P Q' a w) (hQ : ∀ e a' w', Q' e a' w' → e = .normal ∧ R a' w') (hR : ∀ a' w', R a' w' → LoneTo P Qf (G (b.at a' k) cs) w') : LoneTo P Qf (G (b.at a (.code c :: k)) cs) w := by
  obtain ⟨e, a', w', hq, harr⟩ := h b k cs
  obtain ⟨rfl, hr⟩ := hQ e a' w' hq
  obtain ⟨g', w2, hs, hq2⟩ := hR a' w' hr
  exact ⟨g', w2, Steps.trans harr hs, hq2⟩
/-- A loop that counts down, within a walk of the machine of one. -/
theorem lone_loop {P : Program} {Qf : Goroutine → World → Prop} {b : Frame} {cs : List Frame} {B : Code} {K : List Item} (Inv : Nat → Act → World → Prop)
    (hstep : ∀ n a w, Inv (n + 1) a w → LoneTo P (fun g' w' => ∃ a', g' = G (b.at a' (.inLoop B :: K)) cs ∧ Inv n a' w') (G (b.at a (.code B :: .inLoop B :: K)) cs) w)
    (hend : ∀ a w, Inv 0 a w → LoneTo P Qf (G (b.at a (.code B :: .inLoop B :: K)) cs) w) : ∀ n a w, Inv n a w → LoneTo P Qf (G (b.at a (.code B :: .inLoop B :: K)) cs) w := by
  intro n
  induction n with
  | zero => exact hend
  | succ n ih =>
    intro a w h
    obtain ⟨g', w', hs, a', rfl, hi⟩ := hstep n a w h
    have h2 : LoneTo P Qf (G (b.at a' (.inLoop B :: K)) cs) w' := by
      refine LoneTo.goes (n := 2) ?_
      s_c stepG_inLoop
      s_stop
      exact ih a' w' hi
    obtain ⟨g2, w2, hs2, hq2⟩ := h2
    exact ⟨g2, w2, Steps.trans hs hs2, hq2⟩
set_option maxRecDepth 100000 in
set_option maxHeartbeats 4000000 in
theorem sound_any (xs : List Int) (m : Int) (s : ByteArray) (p : Nat) (v : Value) (w : World) (ho : CkOk xs m) (hl : s.size = xs.length) (hp : p < s.size) (hD : ∀ d, d ≤ 9 → digB (putD s.data.toList p d) = true) (h : RdI xs v w) :
    Calls Tryd.prog 44 #[.agg #[v, .int .i64 m], .string s, .int .i64 p] w fun e w' => e = .returned (.chan (some (w.heap.size + 1))) ∧ ChanIs w' (w.heap.size + 1) (sdg xs m s.data.toList p 10) ∧ Below w.heap.size w w' := by
  have HV := Lib.hid h
  have hs12 : s.size ≤ 12 := by have := ho.len; omega
  have HS : Hid (∀ k W, k ≤ 9 → RdI xs v W → Calls Tryd.prog 69 #[.agg #[v, .int .i64 m], .string (putS s p k)] W fun e w' => e = .returned (.bool (sndB xs m (putD s.data.toList p k))) ∧ Below W.heap.size W w') := fun k W hk hr => by
    have := iSound_any xs m (putS s p k) v W ho (by rw [putS_size s p k hp, hl]) (by rw [putS_list s p k]; exact hD k hk) hr
    rw [putS_list s p k] at this
    exact this
  clear h ho hl hD
  refine calls_of_loneTo fun cs => ?_
  have e : Frame.enter Tryd.prog 44 #[.agg #[v, .int .i64 m], .string s, .int .i64 p] .normal = (baseF 44).at ⟨#[.agg #[v, .int .i64 m], .string s, .int .i64 p, undef, undef, undef, undef, undef, undef, undef, undef, undef, undef, undef, undef, undef, undef, undef, undef, undef, undef, undef, undef], []⟩ [.code (Tryd.f44.body.getD .skip)] := by
    simp [Frame.enter, Frame.at, Tryd.func44, baseF, Tryd.f44]
  rw [e]
  have hmk := mkc
  refine LoneTo.goes (n := 30) ?_
  simp only [Tryd.f44, Option.getD_some]
  s_c stepG_seq
  s_reg
  s_op
  s_op
  s_c stepG_region_end
  s_c stepG_seq
  s_reg
  s_op
  s_op
  s_c stepG_region_end
  s_c stepG_seq
  s_c stepG_seq
  s_reg
  s_op
  s_c stepG_region_end
  s_c stepG_block
  s_c stepG_loop
  s_stop
  clear hmk
  refine lone_loop (fun n a wr => ∃ (k : Nat) (ys : List Int) (x8 x11 x12 x13 x14 x15 x16 x17 x18 x19 x20 x21 x22 : Value), n + k = 10 ∧ a = ⟨#[.agg #[v, .int .i64 m], .string s, .int .i64 p, .pointer (some ⟨w.heap.size, 0, none⟩), undef, undef, .chan none, .chan (some (w.heap.size + 1)), x8, .chan (some (w.heap.size + 1)), .int .i64 (k : Int), x11, x12, x13, x14, x15, x16, x17, x18, x19, x20, x21, x22], []⟩ ∧ ys = sdg xs m s.data.toList p k ∧ ChanIs wr (w.heap.size + 1) ys ∧ wr.cell? ⟨w.heap.size, 0, none⟩ = some v ∧ wr.cell? ⟨w.heap.size, 1, none⟩ = some (.int .i64 m) ∧ Below w.heap.size w wr) ?_ ?_ 10 _ _ ?_
  case refine_3 =>
    refine ⟨0, [], undef, undef, undef, undef, undef, undef, undef, undef, undef, undef, undef, undef, undef, rfl, rfl, rfl, ?_, ?_, ?_, ?_⟩
    · exact ⟨0, 0, by have := heap_alloc_new (w.alloc (.cells #[v, .int .i64 m] 29)) (.chan 10 #[] false 0 0 false); rw [World.size_alloc] at this; exact this⟩
    · simp
    · simp
    · exact ((Below.refl _ _).alloc (Nat.le_refl _) _).alloc (by rw [World.size_alloc]; omega) _
  case refine_2 =>
    rintro a wr ⟨k, ys, x8, x11, x12, x13, x14, x15, x16, x17, x18, x19, x20, x21, x22, hn, rfl, rfl, hC, e0, e1, hb⟩
    have hk10 : k = 10 := by omega
    subst hk10
    refine LoneTo.goes (n := 20) ?_
    s_c stepG_seq
    s_reg
    s_op
    s_c stepG_region_end
    s_c stepG_seq
    s_cond false
    s_exit
    s_c stepG_seq
    s_reg
    s_op
    s_op
    s_c stepG_region_end
    s_c stepG_ret'
    s_stop
    refine LoneTo.done ⟨.returned (.chan (some (w.heap.size + 1))), _, rfl, ⟨rfl, hC, hb⟩, rfl, rfl, rfl, rfl, _, Tryd.func44, by simp [results, Tryd.f44, Frame.at]⟩
  case refine_1 =>
    rintro n a wr ⟨k, ys, x8, x11, x12, x13, x14, x15, x16, x17, x18, x19, x20, x21, x22, hn, rfl, hy, hC, e0, e1, hb⟩
    have hk : k ≤ 9 := by omega
    have hn2 : n + (k + 1) = 10 := by omega
    have hk10 : decide ((k : Int) < 10) = true := decide_eq_true (by omega)
    have hk10' : (k : Int) < 10 := by omega
    obtain ⟨wo, rfl⟩ : ∃ wo : World, wo = wr := ⟨_, rfl⟩
    have hcl : w.heap.size + 1 < wo.heap.size := hC.lt
    have ez : w.heap.size < wo.heap.size := by omega
    have HVo : Hid (RdI xs v wo) := HV.out.below hb
    obtain ⟨bz, hbz⟩ : ∃ bz, bz = sndB xs m (putD s.data.toList p k) := ⟨_, rfl⟩
    have hS := fun W hr => HS.out k W hk hr
    rw [← hbz] at hS
    have HSS := Lib.hid hS
    have HB := Lib.hid hb
    have HC := Lib.hid hC
    have HN := Lib.hid hn2
    have HY := Lib.hid hy
    clear hS hb hC hn hn2 hy
    have HBZ := Lib.hid hbz
    clear hbz
    refine LoneTo.goes (n := 25) ?_
    s_c stepG_seq
    s_reg
    s_op
    s_c stepG_region_end
    s_c stepG_seq
    s_cond true
    s_c stepG_skip
    s_c stepG_seq
    s_c stepG_block
    s_c stepG_seq
    s_reg
    s_op
    s_op
    s_c stepG_region_end
    s_c stepG_seq
    s_stop
    refine lone_of_wp (Q' := fun e a' w' => e = .normal ∧ (fun a' w4 => ∃ (y13 y14 y15 y16 y17 : Value), a' = ⟨#[.agg #[v, .int .i64 m], .string s, .int .i64 p, .pointer (some ⟨w.heap.size, 0, none⟩), undef, undef, .chan none, .chan (some (w.heap.size + 1)), (.int .i64 (k : Int)), .chan (some (w.heap.size + 1)), .int .i64 (k : Int), .bool true, .int .i64 (k : Int), y13, y14, y15, y16, y17, .bool bz, x19, x20, x21, x22], []⟩ ∧ Below wo.heap.size wo w4 ∧ w4.cell? ⟨w.heap.size, 0, none⟩ = some v ∧ w4.cell? ⟨w.heap.size, 1, none⟩ = some (.int .i64 m)) a' w') (R := (fun a' w4 => ∃ (y13 y14 y15 y16 y17 : Value), a' = ⟨#[.agg #[v, .int .i64 m], .string s, .int .i64 p, .pointer (some ⟨w.heap.size, 0, none⟩), undef, undef, .chan none, .chan (some (w.heap.size + 1)), (.int .i64 (k : Int)), .chan (some (w.heap.size + 1)), .int .i64 (k : Int), .bool true, .int .i64 (k : Int), y13, y14, y15, y16, y17, .bool bz, x19, x20, x21, x22], []⟩ ∧ Below wo.heap.size wo w4 ∧ w4.cell? ⟨w.heap.size, 0, none⟩ = some v ∧ w4.cell? ⟨w.heap.size, 1, none⟩ = some (.int .i64 m))) ?_ (fun _ _ _ h => h) ?_
    · go_region_held3 (fun w' => w'.cell? ⟨w.heap.size, 0, none⟩ = some v ∧ w'.cell? ⟨w.heap.size, 1, none⟩ = some (.int .i64 m))
        (first | go_keep | exact ⟨k0, k1⟩ | exact ⟨l0, l1⟩)
        (first
        | (go_at_call 45; (with_reducible refine (withDigit_any s p k _ (by omega) hp (by omega)).mono ?_); rintro e w3 ⟨rfl, b3⟩; have B3 : Below wo.heap.size wo w3 := chain (w := wo) (by go_grown) b3; obtain ⟨k0, k1, kz⟩ := keep2 ez e0 e1 B3)
        | (go_at_call 69; (with_reducible refine (HSS.out _ (HVo.out.below B3)).mono ?_); rintro e w4 ⟨rfl, b4⟩; have B4 : Below wo.heap.size wo w4 := chain B3 b4; obtain ⟨l0, l1, lz⟩ := keep2 ez e0 e1 B4))
      all_goals exact ⟨rfl, _, _, _, _, _, rfl, B4, l0, l1⟩
    · rintro a' w4 ⟨y13, y14, y15, y16, y17, rfl, B4, l0, l1⟩
      have hC4 := HC.out.below B4 hcl
      have hb4 : Below w.heap.size w w4 := chain HB.out B4
      have hyl : ys.length ≤ 9 := by rw [HY.out]; have := sdg_len xs m s.data.toList p k; omega
      cases bz with
      | false =>
        refine LoneTo.goes (n := 20) ?_
        s_cond false
        s_c stepG_skip
        s_c stepG_inBlock
        s_reg
        s_op
        s_op
        s_c stepG_region_end
        s_stop
        rw [show (k : Int) + 1 = ((k + 1 : Nat) : Int) by omega, show IntKind.i64.wrap ((k + 1 : Nat) : Int) = ((k + 1 : Nat) : Int) from IntWalk.i64_in _ (by omega)]
        refine LoneTo.done ⟨_, rfl, k + 1, ys, _, _, _, _, _, _, _, _, _, _, _, _, _, HN.out, rfl, ?_, hC4, l0, l1, hb4⟩
        rw [sdg_miss HBZ.out.symm]; exact HY.out
      | true =>
        obtain ⟨sn, rn, hcc⟩ := hC4
        refine LoneTo.goes (n := 20) ?_
        s_cond true
        s_reg
        s_op
        s_op
        s_stop
        refine LoneTo.step (step_lone_send_room (c := w.heap.size + 1) (cap := 10) (buf := cvs ys) (s := sn) (r := rn) (tm := false)
          (stepG_comm (cases := #[scase (w.heap.size + 1) (.int .i64 k) (.tuple #[])]) (blocking := true) (shape := .send) (w' := w4) rfl rfl (by decide) (by simp [execOp, scase, Act.eval])) hcc (by rw [cvs_size]; omega)) ?_
        rw [Frame.finish_at, cvs_push]
        walk_nrm
        refine LoneTo.goes (n := 20) ?_
        s_c stepG_region_end
        s_c stepG_inBlock
        s_reg
        s_op
        s_op
        s_c stepG_region_end
        s_stop
        rw [show (k : Int) + 1 = ((k + 1 : Nat) : Int) by omega, show IntKind.i64.wrap ((k + 1 : Nat) : Int) = ((k + 1 : Nat) : Int) from IntWalk.i64_in _ (by omega)]
        refine LoneTo.done ⟨_, rfl, k + 1, ys ++ [(k : Int)], _, _, _, _, _, _, _, _, _, _, _, _, _, HN.out, rfl, ?_, ChanIs.set _ _ _ _ _ (by have := B4.size; omega), ?_, ?_, below_setChan hb4 (by omega) _ _ _ _ _ _⟩
        · rw [sdg_hit HBZ.out.symm, HY.out]
        · rw [cell_setChan _ _ _ _ _ _ _ _ _ _ (Nat.lt_succ_self _)]; exact l0
        · rw [cell_setChan _ _ _ _ _ _ _ _ _ _ (Nat.lt_succ_self _)]; exact l1
end Go.Proofs.YtdjcgddcgjbboaaDoor
