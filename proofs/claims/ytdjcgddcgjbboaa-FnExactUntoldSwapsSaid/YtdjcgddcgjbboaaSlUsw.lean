/-
  Whether a swap is told: the program's untoldSwap.
-/
import Derived.Test.YtdjcgddcgjbboaaSlCat
import Derived.Laws.ResultCell
import Derived.Test.YtdjcgddcgjbboaaSlRc
import Derived.Test.YtdjcgddcgjbboaaSlPair
import Derived.Test.YtdjcgddcgjbboaaSlLawI
namespace Go.Proofs.Ytdjcgddcgjbboaa
open Go.RowKit

/-- The value of a slip. -/
def slipV (p : Nat) : Option (Nat × Nat) → Value
  | none => .agg #[.int .i64 0, .int .i64 0, .int .i64 0]
  | some (a, b) => .agg #[.int .i64 p, .int .i64 a, .int .i64 b]
/-- A slice has room for what is in it. -/
def CapOk (v : Value) : Prop := ∀ a n cap, v = .slice a n cap → n ≤ cap
theorem Ints.cap {B : Nat} {xs : List Int} {v : Value} {w : World} (h : Ints B xs v w) : CapOk v := by
  intro a n cap e
  rcases h.2 with ⟨rfl, h0⟩ | ⟨g, c, cur, rfl, _, _, hc, _⟩
  · simp only [Value.slice.injEq] at e; omega
  · simp only [Value.slice.injEq] at e; omega
theorem CapOk.own (g n : Nat) : CapOk (.slice (some ⟨g, 0, none⟩) n n) := by
  intro a n' cap e
  simp only [Value.slice.injEq] at e; omega
theorem Ints.len {B : Nat} {xs : List Int} {v : Value} {w : World} (h : Ints B xs v w) : ∃ ao cap, v = .slice ao xs.length cap := by
  rcases h.form with ⟨ao, cap, rfl, _⟩ | ⟨g, cap, rfl, _⟩
  · exact ⟨_, _, rfl⟩
  · exact ⟨_, _, rfl⟩
theorem results_row_tmp {P : Program} {fn : Func} {p u : Tmp} {ty : TypeId} (h : fn.results = #[.cell p ty, .tmp u]) (tmps : Array Value) (w : World) (g : Nat) (t : TypeId) (cs : Array Value) (fr : Nat × Nat) (d : TypeDesc)
    (hp : tmps.getD p undef = .pointer (some ⟨g, 0, none⟩)) (hg : w.heap[g]? = some (.cells cs t fr)) (hu : P.underlying ty = some d) (hd : (match d with | .struct _ | .array _ _ => true | _ => false) = true) (hi : (P.info? ty).map (·.size) = some cs.size) :
    (results fn tmps).run P w = .ok (.tuple #[.agg cs, tmps.getD u undef]) w := by
  rw [results_cell_tmp h, hp]
  simp [asAddr, Result.andThen, run_loadVar_row w g t ty cs fr d hg hu hd hi]
theorem below_low {w wn : World} (h : Below w.heap.size w wn) (b i : Nat) (x : Value) (hb : w.heap.size ≤ b) : Below w.heap.size w (wn.setCell ⟨b, i, none⟩ x) := h.setCell hb x
theorem blk3 {w : World} {b : Nat} {x y z : Value} {T : TypeId} (h : w.heap[b]? = some (.cells #[x, y, z] T (0, 0))) : w.cell? ⟨b, 0, none⟩ = some x ∧ w.cell? ⟨b, 1, none⟩ = some y ∧ w.cell? ⟨b, 2, none⟩ = some z ∧ (∀ i, w.frozen? ⟨b, i, none⟩ = false) ∧ w.shape? b = some (T, 3) := by
  refine ⟨by rw [Lib.cell_of_heap h]; rfl, by rw [Lib.cell_of_heap h]; rfl, by rw [Lib.cell_of_heap h]; rfl, fun i => Lib.frozen_of_heap h i, ?_⟩
  unfold World.shape?; rw [h]; rfl
def adS (gx ox k c : Nat) : Addr := if c - k = 0 then ⟨gx, ox, none⟩ else ⟨gx, ox + k, none⟩
theorem slA (gx ox n cap p : Nat) (h : p ≤ cap) (W : World) :
    (Instr.slice 22 (.slice (some ⟨gx, ox, none⟩) n cap) none (some (.int .i64 (p : Int))) none).run Try.prog W = .ok (.slice (some ⟨gx, ox, none⟩) p cap) W := by
  rw [run_slice_h W 22 (some ⟨gx, ox, none⟩) n cap (by kernel_rfl) .i64 (p : Int) (by omega) (by omega)]
  have hsz : (sizeOf (Try.prog.elem 22)).run Try.prog W = .ok 1 W := by kernel_rfl
  rw [hsz]
  simp [Result.andThen, sliced, Addr.add]
theorem slB (gx ox n cap k : Nat) (h : k ≤ n) (hk : 0 < k) (hnc : n ≤ cap) (W : World) :
    (Instr.slice 22 (.slice (some ⟨gx, ox, none⟩) n cap) (some (.int .i64 (k : Int))) none none).run Try.prog W = .ok (.slice (some (adS gx ox k cap)) (n - k) (cap - k)) W := by
  rw [run_slice_l W 22 (some ⟨gx, ox, none⟩) n cap (by kernel_rfl) .i64 (k : Int) (by omega) (by omega)]
  have hsz : (sizeOf (Try.prog.elem 22)).run Try.prog W = .ok 1 W := by kernel_rfl
  rw [hsz]
  unfold adS
  by_cases h0 : cap - k = 0
  · have e : cap = k := by omega
    simp [Result.andThen, sliced, e]
  · have e : ¬ cap = k := by omega
    have e2 : ¬ k = 0 := by omega
    simp [Result.andThen, sliced, h0, e, e2, Addr.add]
theorem liesCut {W : World} {xs : List Int} {gx ox b p k cap c1 : Nat} (hc : ∀ i, i < xs.length → W.cell? ⟨gx, ox + i, none⟩ = some (.int .i64 (xs.getD i 0))) (hg : gx < W.heap.size) (hb : b < W.heap.size) (hp : p ≤ k) (hk : k ≤ xs.length)
    (h0 : W.cell? ⟨b, 0, none⟩ = some (.slice (some ⟨gx, ox, none⟩) p c1)) (h1 : W.cell? ⟨b, 1, none⟩ = some (.slice (some (adS gx ox k cap)) (xs.length - k) (cap - k))) (hcap : xs.length ≤ cap) : Lies [xs.take p, xs.drop k] b W := by
  refine ⟨hb, fun j hj => ?_⟩
  match j, hj with
  | 0, _ =>
    refine ⟨⟨gx, ox, none⟩, c1, ?_, hg, rfl, fun i u hi => ?_⟩
    · rw [h0]; simp; omega
    · have hi' : xs[i]? = some u ∧ i < p := by
        have h2 : i < (xs.take p).length := (List.getElem?_eq_some_iff.1 hi).1
        simp only [List.length_take] at h2
        simp only [List.getD_cons_zero] at hi
        rw [List.getElem?_take, if_pos (by omega)] at hi
        exact ⟨hi, by omega⟩
      have := hc i (by omega)
      rw [List.getD_eq_getElem?_getD, hi'.1] at this
      have e : (⟨gx, ox, none⟩ : Addr).add i = ⟨gx, ox + i, none⟩ := by unfold Addr.add; split <;> simp_all
      rw [e]; exact this
  | 1, _ =>
    refine ⟨adS gx ox k cap, cap - k, ?_, by unfold adS; split <;> exact hg, by unfold adS; split <;> rfl, fun i u hi => ?_⟩
    · rw [h1]; simp
    · simp only [List.getD_cons_succ, List.getD_cons_zero] at hi
      have h2 : i < (xs.drop k).length := (List.getElem?_eq_some_iff.1 hi).1
      simp only [List.length_drop] at h2
      rw [List.getElem?_drop] at hi
      have := hc (k + i) (by omega)
      rw [List.getD_eq_getElem?_getD, hi] at this
      unfold adS
      rw [if_neg (by omega)]
      have e : (⟨gx, ox + k, none⟩ : Addr).add i = ⟨gx, ox + (k + i), none⟩ := by unfold Addr.add; split <;> simp_all [Nat.add_assoc]
      rw [e]; exact this
theorem oth_ok {xs : List Int} {m : Int} {p : Nat} (ho : CkOk xs m) (hp : p + 1 < xs.length) : CkOk (oth xs p (p + 2)) m := by
  have hl := oth_len xs p (p + 2) (by omega) (by omega)
  refine ⟨by have := ho.len; omega, ho.m2, ho.m11, fun i hi => ?_⟩
  by_cases e : i < p
  · rw [oth_lo xs p (p + 2) i e (by omega)]; exact ho.x i (by omega)
  · have := oth_hi xs p (p + 2) (i + 2) (by omega) (by omega) (by omega)
    rw [show i + 2 - (p + 2 - p) = i by omega] at this
    rw [this]; exact ho.x (i + 2) (by omega)
set_option maxHeartbeats 4000000 in
theorem untSw_any (xs : List Int) (m : Int) (p : Nat) (v : Value) (w : World) (ho : CkOk xs m) (hp : p + 1 < xs.length) (h : RdI xs v w) (hcp : CapOk v) :
    Calls Try.prog 18 #[.agg #[v, .int .i64 m], .int .i64 p] w fun e w' => e = .returned (.tuple #[slipV p (untW xs m p), .bool (untW xs m p).isSome]) ∧ Below w.heap.size w w' := by
  have HV := Lib.hid h
  have hm2 := ho.m2
  have hm11 := ho.m11
  have hn12 := ho.len
  have hx0 := ho.x p (by omega)
  have hy0 := ho.x (p + 1) (by omega)
  have HRC := Lib.hid (fun (u : Value) (W : World) (hr : RdI (oth xs p (p + 2)) u W) => restC_any (oth xs p (p + 2)) m u W (oth_ok ho hp) hr)
  obtain ⟨a0, cap, rfl, hc⟩ := h
  have hcap := hcp _ _ _ rfl
  obtain ⟨gx, ox, rfl, hgx, cx0⟩ := hc p (by omega)
  obtain ⟨_, _, hsame2, _, cx1⟩ := hc (p + 1) (by omega)
  simp only [Option.some.injEq, Addr.mk.injEq] at hsame2
  obtain ⟨rfl, rfl, _⟩ := hsame2
  have HC : Hid (∀ i, i < xs.length → w.cell? ⟨gx, ox + i, none⟩ = some (.int .i64 (xs.getD i 0))) := fun i hi => by
    obtain ⟨g, o, h1, h2, h3⟩ := hc i hi
    simp only [Option.some.injEq, Addr.mk.injEq] at h1
    obtain ⟨rfl, rfl, _⟩ := h1
    exact h3
  obtain ⟨o, hoo⟩ : ∃ o, o = untW xs m p := ⟨_, rfl⟩
  rw [← hoo]
  obtain ⟨M, rfl⟩ : ∃ M : Nat, m = M := ⟨m.toNat, by omega⟩
  have HOM : Hid ((oth xs p (p + 2)).length = xs.length - 2) := by show _ = _; rw [oth_len xs p (p + 2) (by omega) (by omega)]; omega
  obtain ⟨n, hnn⟩ : ∃ n, n = xs.length := ⟨_, rfl⟩
  have HN := Lib.hid hnn
  rw [← hnn] at hn12 hp HV hcap
  rw [← hnn]
  obtain ⟨x, hxx⟩ : ∃ x, x = xs.getD p 0 := ⟨_, rfl⟩
  rw [← hxx] at hx0 cx0
  obtain ⟨hx0, hx1⟩ := hx0
  have hx10 : x ≤ 10 := by omega
  obtain ⟨y, hyy⟩ : ∃ y, y = xs.getD (p + 1) 0 := ⟨_, rfl⟩
  rw [← hyy] at hy0 cx1
  obtain ⟨hy0, hy1⟩ := hy0
  have hy10 : y ≤ 10 := by omega
  obtain ⟨P, hPP⟩ : ∃ P, P = pS xs (M : Int) p := ⟨_, rfl⟩
  have HO : Hid (o = pairF P) := by show _ = _; rw [hoo, hPP]; rfl
  have HP : Hid (∀ (a b q : Nat), (q : Int) = ((M : Int) - (x * (a : Int) + y * (b : Int)) % (M : Int)) % (M : Int) → P a b = (decide ((x * (a : Int) + y * (b : Int)) % (M : Int) = (x * (b : Int) + y * (a : Int)) % (M : Int)) && decide (0 < cR (oth xs p (p + 2)) M (oth xs p (p + 2)).length q))) := fun a b q hq => by
    rw [hPP, pS_iff xs M p a b q (by omega) (by unfold wrest; rw [← hxx, ← hyy]; exact hq)]
    unfold wrest; rw [← hxx, ← hyy]
  have hsA : ∀ W, (Instr.slice 22 (.slice (some ⟨gx, ox, none⟩) n cap) none (some (.int .i64 (p : Int))) none).run Try.prog W = .ok (.slice (some ⟨gx, ox, none⟩) p cap) W := fun W => slA gx ox n cap p (by omega) W
  obtain ⟨adB, hadB⟩ : ∃ adB, adB = adS gx ox (p + 2) cap := ⟨_, rfl⟩
  obtain ⟨nB, hnB⟩ : ∃ nB, nB = n - (p + 2) := ⟨_, rfl⟩
  obtain ⟨cB, hcB⟩ : ∃ cB, cB = cap - (p + 2) := ⟨_, rfl⟩
  have hsB : ∀ W, (Instr.slice 22 (.slice (some ⟨gx, ox, none⟩) n cap) (some (.int .i64 ((p : Int) + 2))) none none).run Try.prog W = .ok (.slice (some adB) nB cB) W := fun W => by
    rw [hadB, hnB, hcB, ← slB gx ox n cap (p + 2) (by omega) (by omega) (by omega) W]; rfl
  have HLIE : Hid (∀ (W : World) (b : Nat), Below w.heap.size w W → b < W.heap.size → W.cell? ⟨b, 0, none⟩ = some (.slice (some ⟨gx, ox, none⟩) p cap) → W.cell? ⟨b, 1, none⟩ = some (.slice (some adB) nB cB) → Lies [xs.take p, xs.drop (p + 2)] b W) := fun W b hb hlt h0 h1 => by
    refine liesCut (gx := gx) (ox := ox) (cap := cap) (fun i hi => (hb.cell (p := ⟨gx, ox + i, none⟩) hgx).trans (HC.out i hi)) (by have := hb.size; omega) hlt (by omega) (by omega) h0 ?_ (by omega)
    rw [h1, hadB, hnB, hcB, HN.out]
  have HTK : Hid (∀ j, j < [xs.take p, xs.drop (p + 2)].length → ([xs.take p, xs.drop (p + 2)].getD j []).length ≤ 1000) := by
    intro j hj
    match j, hj with
    | 0, _ => simp; omega
    | 1, _ => simp; omega
  have HFL : Hid ([xs.take p, xs.drop (p + 2)].flatten = oth xs p (p + 2)) := by show _ = _; simp [oth]
  clear hc ho hnn hoo hxx hyy hx1 hy1 hPP hadB hnB hcB
  have hpi : (0 : Int) ≤ (p : Int) := by omega
  have hpn : (p : Int) < (n : Int) := by omega
  have hpn1 : (p : Int) + 1 < (n : Int) := by omega
  have hw1 : IntKind.i64.wrap ((p : Int) + 1) = (p : Int) + 1 := IntWalk.i64_in _ (by omega)
  have hw2 : IntKind.i64.wrap ((p : Int) + 2) = (p : Int) + 2 := IntWalk.i64_in _ (by omega)
  obtain ⟨W0, hW0⟩ : ∃ W0, W0 = (w.alloc (.cells #[.slice (some ⟨gx, ox, none⟩) n cap, .int .i64 M] 29)).alloc (.cells #[.int .i64 0, .int .i64 0, .int .i64 0] 48) := ⟨_, rfl⟩
  have HB0 : Hid (Below w.heap.size w W0) := by show Below _ _ _; rw [hW0]; exact ((Below.refl _ _).alloc (Nat.le_refl _) _).alloc (by rw [World.size_alloc]; omega) _
  have hbx : Blk W0 w.heap.size #[.slice (some ⟨gx, ox, none⟩) n cap, .int .i64 M] 29 := by rw [hW0]; exact (Blk.new _ _ _).alloc _
  have hbs : Blk W0 (w.heap.size + 1) #[.int .i64 0, .int .i64 0, .int .i64 0] 48 := by rw [hW0]; have := Blk.new (w.alloc (.cells #[.slice (some ⟨gx, ox, none⟩) n cap, .int .i64 M] 29)) #[.int .i64 0, .int .i64 0, .int .i64 0] 48; rw [World.size_alloc] at this; exact this
  have HBX := Lib.hid hbx
  have HBS := Lib.hid hbs
  have hsz0 : W0.heap.size = w.heap.size + 1 + 1 := by rw [hW0]; simp [World.size_alloc]
  have HSZ := Lib.hid hsz0
  have d2 := (HB0.out.cell (p := ⟨gx, ox + p, none⟩) hgx).trans cx0
  have d3 := (HB0.out.cell (p := ⟨gx, ox + (p + 1), none⟩) hgx).trans cx1
  have c0 := hbx.cell 0
  have c1 := hbx.cell 1
  simp at c0 c1
  clear hbx hbs cx0 cx1 hsz0
  go_enter Try.func18, Try.ntmps18
  go_wp2
  rw [← hW0]
  clear hW0
  go_quiet (fail)
  revert nq
  intro n1
  obtain ⟨W1, hW1⟩ : ∃ W1 : World, W1 = W0.drewN n1 := ⟨_, rfl⟩
  have HX1 : Hid (Blk W1 w.heap.size #[.slice (some ⟨gx, ox, none⟩) n cap, .int .i64 M] 29 ∧ Blk W1 (w.heap.size + 1) #[.int .i64 0, .int .i64 0, .int .i64 0] 48 ∧ W1.heap.size = w.heap.size + 1 + 1 ∧ Below w.heap.size w W1) := by
    rw [hW1]; exact ⟨HBX.out.drewN _, HBS.out.drewN _, HSZ.out, below_drewN HB0.out _⟩
  go_wp2
  rw [← hW1]
  clear hW1 c0 c1 d2 d3 HBX HBS HSZ HB0
  have c0 := HX1.out.1.cell 0
  have c1 := HX1.out.1.cell 1
  simp at c0 c1
  have hwz : w.heap.size < W1.heap.size := by have := HX1.out.2.2.1; omega
  have hne1 : ¬ w.heap.size = W1.heap.size := by omega
  have HLIE1 : Hid (∀ (W : World) (b : Nat), Below W1.heap.size W1 W → b < W.heap.size → W.cell? ⟨b, 0, none⟩ = some (.slice (some ⟨gx, ox, none⟩) p cap) → W.cell? ⟨b, 1, none⟩ = some (.slice (some adB) nB cB) → Lies [xs.take p, xs.drop (p + 2)] b W) := fun W b hb h1 h2 h3 => HLIE.out W b (HX1.out.2.2.2.trans (hb.mono HX1.out.2.2.2.size)) h1 h2 h3
  go_region_held3 (fun w' => w'.cell? ⟨w.heap.size, 0, none⟩ = some (.slice (some ⟨gx, ox, none⟩) n cap) ∧ w'.cell? ⟨w.heap.size, 1, none⟩ = some (.int .i64 (M : Int)))
    (first | go_keep | exact ⟨k0, k1⟩ | exact ⟨l0, l1⟩)
    (first
    | (go_at_call 28; (with_reducible refine (conc_any [xs.take p, xs.drop (p + 2)] _ 2 2 _ rfl (by omega) HTK.out (HLIE1.out _ _ (by go_grown) (by simp) (by simp) (by simp))).mono ?_); rintro e w3 ⟨⟨u, rfl, hu⟩, b3⟩; have B3 : Below W1.heap.size W1 w3 := chain (w := W1) (by go_grown) b3; obtain ⟨k0, k1, kz⟩ := keep2 hwz c0 c1 B3; rw [HFL.out] at hu; obtain ⟨ga, ca, rfl⟩ := hu.len)
    | (go_at_call 27; (with_reducible refine (HRC.out _ _ (hu.rd.below (by go_grown))).mono ?_); rintro e w4 ⟨⟨g4, rfl, hg4, hr4⟩, b4⟩; have B4 : Below W1.heap.size W1 w4 := chain B3 (chain (w := w3) (by go_grown) b4); obtain ⟨l0, l1, lz⟩ := keep2 hwz c0 c1 B4))
  have HS4 : Hid (w4.heap[w.heap.size + 1]? = some (.cells #[.int .i64 0, .int .i64 0, .int .i64 0] 48 (0, 0))) := HX1.out.2.1.keep B4
  have HB4 : Hid (Below w.heap.size w w4) := HX1.out.2.2.2.trans (B4.mono HX1.out.2.2.2.size)
  have HR4 := Lib.hid hr4
  clear b3 B3 hu b4 hr4 hg4 B4 k0 k1 kz c0 c1 hwz hne1 l0 hsA hsB lz
  go_wp2_with fail
  go_loop [39] (fun av => ∃ a : Nat, a ≤ 10 ∧ av = .int .i64 a ∧ Hid (NoB P a (a + 1))) (fun av => 10 - (intOf av).toNat)
  case atStart => exact ⟨0, by omega, rfl, NoB.start _⟩
  case round =>
    obtain ⟨a, ha, rfl, HA⟩ := hrel
    by_cases ha10 : a < 10
    · have hdec : decide ((a : Int) < 10) = true := decide_eq_true (by omega)
      go_wp2_with fail
      clear hdec
      go_loop [10] (fun bv => ∃ b : Nat, a + 1 ≤ b ∧ b ≤ 10 ∧ bv = .int .i64 b ∧ Hid (NoB P a b)) (fun bv => 10 - (intOf bv).toNat)
      case atStart => exact ⟨a + 1, by omega, by omega, by go_num, HA⟩
      case round =>
        obtain ⟨b, hb1, hb2, rfl, HNB⟩ := hrel
        by_cases hb10 : b < 10
        · have hp0 : 0 ≤ x * (a : Int) := Int.mul_nonneg hx0 (by omega)
          have hp1 : x * (a : Int) ≤ 10 * 9 := Int.mul_le_mul hx10 (by omega) (by omega) (by omega)
          have hp2 : 0 ≤ y * (b : Int) := Int.mul_nonneg hy0 (by omega)
          have hp3 : y * (b : Int) ≤ 10 * 9 := Int.mul_le_mul hy10 (by omega) (by omega) (by omega)
          have hp4 : 0 ≤ x * (b : Int) := Int.mul_nonneg hx0 (by omega)
          have hp5 : x * (b : Int) ≤ 10 * 9 := Int.mul_le_mul hx10 (by omega) (by omega) (by omega)
          have hp6 : 0 ≤ y * (a : Int) := Int.mul_nonneg hy0 (by omega)
          have hp7 : y * (a : Int) ≤ 10 * 9 := Int.mul_le_mul hy10 (by omega) (by omega) (by omega)
          obtain ⟨R1, hR1, hR1M⟩ := rest_nat (x * (a : Int) + y * (b : Int)) (M : Int) (by omega)
          obtain ⟨R2, hR2, hR2M⟩ := rest_nat (x * (b : Int) + y * (a : Int)) (M : Int) (by omega)
          obtain ⟨q, hq, hqM⟩ := rest_nat ((M : Int) - (R1 : Int)) (M : Int) (by omega)
          have hP := HP.out a b q (by rw [← hR1]; exact hq)
          rw [← hR1, ← hR2] at hP
          have e1 : (x * (a : Int) + y * (b : Int)) % (M : Int) = (R1 : Int) := hR1.symm
          have e2 : (x * (b : Int) + y * (a : Int)) % (M : Int) = (R2 : Int) := hR2.symm
          have e3 : ((M : Int) - (R1 : Int)) % (M : Int) = (q : Int) := hq.symm
          have f1 : (x * (a : Int) + y * (b : Int)).tmod (M : Int) = (R1 : Int) := by rw [Int.tmod_eq_emod_of_nonneg (by omega)]; exact e1
          have f2 : (x * (b : Int) + y * (a : Int)).tmod (M : Int) = (R2 : Int) := by rw [Int.tmod_eq_emod_of_nonneg (by omega)]; exact e2
          have f3 : ((M : Int) - (R1 : Int)).tmod (M : Int) = (q : Int) := by rw [Int.tmod_eq_emod_of_nonneg (by omega)]; exact e3
          have hR1' : R1 < M := by omega
          have hqM' : q < M := by omega
          have cq := HR4.out.cell hqM'
          obtain ⟨C, hC⟩ : ∃ C, C = cR (oth xs p (p + 2)) M (oth xs p (p + 2)).length q := ⟨_, rfl⟩
          rw [← hC] at cq hP
          clear hR1 hR2 hq hC hR1M hR2M hqM
          by_cases hRR : (R1 : Int) = (R2 : Int)
          · have hRq : ((R1 : Int) == (R2 : Int)) = true := by rw [hRR]; simp
            rw [decide_eq_true hRR, Bool.true_and] at hP
            by_cases hC0 : 0 < C
            · rw [decide_eq_true hC0] at hP
              have HON : Hid (o = some (a, b)) := by show _ = _; rw [HO.out]; exact pairF_eq ⟨by omega, hb10, hP, HNB.out⟩
              clear hP hRR
              obtain ⟨s0, s1, s2, sf, ss⟩ := blk3 HS4.out
              go_wp2
              refine bodyPost_ret (results_row_tmp rfl _ _ (w.heap.size + 1) 48 #[.int .i64 p, .int .i64 a, .int .i64 b] (0, 0) _ rfl ?_ Try.underlying48 rfl (by kernel_rfl)) rfl ?_
              · simp [World.setCell, Array.getElem?_modify, HS4.out]
              · exact ⟨by rw [HON.out]; rfl, below_low (below_low (below_low HB4.out _ _ _ (by omega)) _ _ _ (by omega)) _ _ _ (by omega)⟩
            · rw [decide_eq_false hC0] at hP
              have HG := Lib.hid (NoB.go HNB.out hP)
              clear hP hRR
              go_wp2
              go_round
              case rel => exact ⟨b + 1, by omega, by omega, by go_num, HG⟩
              case measure => simp [intOf]; omega
          · have hRq : ((R1 : Int) == (R2 : Int)) = false := beq_false_of_ne hRR
            rw [decide_eq_false hRR, Bool.false_and] at hP
            have HG := Lib.hid (NoB.go HNB.out hP)
            clear hP hRR
            go_wp2
            go_round
            case rel => exact ⟨b + 1, by omega, by omega, by go_num, HG⟩
            case measure => simp [intOf]; omega
        · have HG := Lib.hid (NoB.next HNB.out (by omega))
          go_wp2
          go_round
          case rel => exact ⟨a + 1, by omega, by go_num, HG⟩
          case measure => simp [intOf]; omega
    · have HR : Hid (o = none) := by show _ = _; rw [HO.out]; exact pairF_eq (NoB.none HA.out (by omega))
      obtain ⟨s0, s1, s2, sf, ss⟩ := blk3 HS4.out
      go_wp2
      refine bodyPost_ret (results_row_tmp rfl _ _ (w.heap.size + 1) 48 #[.int .i64 0, .int .i64 0, .int .i64 0] (0, 0) _ rfl ?_ Try.underlying48 rfl (by kernel_rfl)) rfl ?_
      · simp [World.setCell, Array.getElem?_modify, HS4.out]
      · exact ⟨by rw [HR.out]; rfl, below_low (below_low (below_low HB4.out _ _ _ (by omega)) _ _ _ (by omega)) _ _ _ (by omega)⟩
end Go.Proofs.Ytdjcgddcgjbboaa
