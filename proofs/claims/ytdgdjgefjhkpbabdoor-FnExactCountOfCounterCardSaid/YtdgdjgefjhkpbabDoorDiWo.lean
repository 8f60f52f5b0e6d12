/-
  Broken counters: the program's side.
-/
import Derived.Test.YtdgdjgefjhkpbabDoorDiWm
import Derived.Test.YtdgdjgefjhkpbabDoorDiSum
import Derived.Test.YtdgdjgefjhkpbabDoorDiSrch
import Derived.Deep.WholeRow
import Derived.ChangeKeysEq
namespace Go.Proofs.YtdgdjgefjhkpbabDoor
open Go.RowKit

theorem standsFor_any (x b : Int) (w : World) (hx : 0 ≤ x ∧ x ≤ 9) :
    Calls Tryd.prog 50 #[.int .i64 x, .int .i64 b] w fun e w' => e = .returned (.int .i64 (st b x)) ∧ w = w' := by
  obtain ⟨hx0, hx1⟩ := hx
  by_cases h1 : 0 < b
  · by_cases h2 : b ≤ x
    · have HZ : Hid (st b x = x - 1) := by show _ = _; unfold st; rw [if_pos ⟨h1, h2⟩]
      go_enter Tryd.func50, Tryd.ntmps50
      go_wp2
      go_ret
      exact ⟨ret_int HZ.out.symm, rfl⟩
    · have HZ : Hid (st b x = x) := by show _ = _; unfold st; rw [if_neg (fun h => h2 h.2)]
      go_enter Tryd.func50, Tryd.ntmps50
      go_wp2
      go_ret
      exact ⟨ret_int HZ.out.symm, rfl⟩
  · have HZ : Hid (st b x = x) := by show _ = _; unfold st; rw [if_neg (fun h => h1 h.1)]
    go_enter Tryd.func50, Tryd.ntmps50
    go_wp2
    go_ret
    exact ⟨ret_int HZ.out.symm, rfl⟩
theorem cw_txt {n : Int} {s : ByteArray} (h : TxtOf n s) (b : Int) : cw b n = (cwf b s.data.toList).1 := by unfold cw cwn; rw [h]
set_option maxHeartbeats 1000000 in
theorem countWithout_any (n b : Int) (w : World) (h0 : 0 ≤ n) (h1 : n ≤ 1000000000000) (htab : Tab w) :
    Calls Tryd.prog 34 #[.int .i64 n, .int .i64 b] w fun e w' => e = .returned (.int .i64 (cw b n)) ∧ Below w.heap.size w w' := by
  obtain ⟨s, hs⟩ := txt_ex n
  have HD := Lib.hid hs.dig
  have hsz := hs.size h1
  have HI := Lib.hid (decimals_any n s w h0 h1 hs htab)
  obtain ⟨hsz1, hsz2⟩ := hsz
  rw [cw_txt hs]
  clear hs htab
  go_enter Tryd.func34, Tryd.ntmps34
  go_wp2_with (go_at_call 43; refine HI.out.mono ?_; rintro e w1 ⟨⟨g, rfl, hr, hg⟩, b1⟩; have HR := Lib.hid hr; clear hr)
  go_loop [5, 6, 12] (fun t lv i => ∃ (k : Nat) (S : Int) (L : Bool), k ≤ s.size ∧ i = .int .i64 k ∧ t = .int .i64 S ∧ lv = .bool L ∧ Hid ((S, L) = cwf b (s.data.toList.take k))) (fun _ _ i => s.size - (intOf i).toNat)
  case atStart => exact ⟨0, 0, false, Nat.zero_le _, rfl, rfl, rfl, rfl⟩
  case round =>
    obtain ⟨k, S, L, hk, rfl, rfl, rfl, HS⟩ := hrel
    have hSb := cwf_13 b (s.data.toList.take k) (digB_take _ _ HD.out) (by have : (s.data.toList.take k).length ≤ k := List.length_take_le _ _; omega)
    rw [← HS.out] at hSb
    obtain ⟨hS0, hS1⟩ := hSb
    by_cases hlt : k < s.size
    · have hjb := dj_bd HD.out hlt
      have c0 := HR.out.cell hlt
      obtain ⟨x, hx⟩ : ∃ x : Int, dj s k = x := ⟨_, rfl⟩
      rw [hx] at hjb c0
      have HX := Lib.hid hjb
      obtain ⟨hx0, hx1⟩ := hjb
      have HS' : Hid ((9 * S + st b (if L = true then 9 else x), L || decide (x = b)) = cwf b (s.data.toList.take (k + 1))) := by
        show _ = _
        rw [take_dj s k hlt, cwf_snoc, ← HS.out, ← hx]; rfl
      clear hx
      cases L with
      | true =>
        have hst := st_bd (b := b) (x := 9) (by omega)
        obtain ⟨hst0, hst1⟩ := hst
        have HS2 : Hid ((9 * S + st b 9, true) = cwf b (s.data.toList.take (k + 1))) := HS'.out
        clear HS'
        obtain ⟨y, hy⟩ : ∃ y, st b 9 = y := ⟨_, rfl⟩
        have HY := Lib.hid hy
        rw [hy] at hst0 hst1 HS2
        clear hy
        go_wp2_with (go_at_call 50; refine (standsFor_any 9 b _ (by omega)).mono ?_; rintro e w' ⟨rfl, rfl⟩; rw [HY.out])
        go_round
        case rel => exact ⟨k + 1, _, true, by omega, by go_num, rfl, rfl, HS2⟩
        case measure => simp [intOf]; omega
      | false =>
        have hst := st_bd (b := b) HX.out
        obtain ⟨hst0, hst1⟩ := hst
        have HS2 : Hid ((9 * S + st b x, decide (x = b)) = cwf b (s.data.toList.take (k + 1))) := HS'.out
        clear HS'
        obtain ⟨y, hy⟩ : ∃ y, st b x = y := ⟨_, rfl⟩
        have HY := Lib.hid hy
        rw [hy] at hst0 hst1 HS2
        clear hy
        by_cases hxb : x = b
        · have hq : (x == b) = true := by simpa using hxb
          rw [decide_eq_true hxb] at HS2
          clear hxb
          go_wp2_with (go_at_call 50; refine (standsFor_any x b _ HX.out).mono ?_; rintro e w' ⟨rfl, rfl⟩; rw [HY.out])
          go_round
          case rel => exact ⟨k + 1, _, true, by omega, by go_num, rfl, rfl, HS2⟩
          case measure => simp [intOf]; omega
        · have hq : (x == b) = false := by simpa using hxb
          rw [decide_eq_false hxb] at HS2
          clear hxb
          go_wp2_with (go_at_call 50; refine (standsFor_any x b _ HX.out).mono ?_; rintro e w' ⟨rfl, rfl⟩; rw [HY.out])
          go_round
          case rel => exact ⟨k + 1, _, false, by omega, by go_num, rfl, rfl, HS2⟩
          case measure => simp [intOf]; omega
    · go_wp2
      go_ret
      exact ⟨ret_int (by have := HS.out; rw [show k = s.size by omega, take_all] at this; rw [← this]), b1⟩
/-- One count struck. -/
def wo (f : Nat → Int) (d : Nat) : Nat → Int := fun j => if j = d then 0 else f j
set_option maxHeartbeats 1000000 in
theorem without_any (f : Nat → Int) (d : Nat) (w : World) (hd : d < 10) :
    Calls Tryd.prog 53 #[.agg (A10 f), .int .i64 (d : Int)] w fun e w' => e = .returned (.agg (A10 (wo f d))) ∧ Below w.heap.size w w' := by
  obtain ⟨C, hC⟩ : ∃ C, C = A10 f := ⟨_, rfl⟩
  obtain ⟨h, hh⟩ : ∃ h : Nat → Int, h = wo f d := ⟨_, rfl⟩
  obtain ⟨C2, hC2⟩ : ∃ C2, C2 = A10 h := ⟨_, rfl⟩
  have hset : C.setIfInBounds d (.int .i64 0) = C2 := by
    rw [hC, hC2, hh]
    apply Array.ext_getElem?
    intro i
    rw [Array.getElem?_setIfInBounds]
    by_cases hi : i < 10
    · rw [A10_get _ hi]
      by_cases e : d = i
      · rw [if_pos e, if_pos (by show d < 10; exact hd), A10_get _ hi]; unfold wo; rw [if_pos e.symm]
      · rw [if_neg e, A10_get _ hi]; unfold wo; rw [if_neg (fun h => e h.symm)]
    · rw [if_neg (by omega), Array.getElem?_eq_none (by show 10 ≤ i; omega), Array.getElem?_eq_none (by show 10 ≤ i; omega)]
  have hR0 : Row10 ((w.alloc (.cells C 43)).alloc (.cells (A10 fun _ => 0) 43)) w.heap.size f := by
    rw [hC]; exact (Row10.new w f).alloc _
  have c0 := hR0.cell hd
  have z0 := hR0.frozen d
  have HR2 : Row10 ((w.alloc (.cells C2 43)).alloc (.cells (A10 fun _ => 0) 43)) w.heap.size h := by
    rw [hC2]; exact (Row10.new w h).alloc _
  obtain ⟨d0, d1, d2, d3, d4, d5, d6, d7, d8, d9, df, ds⟩ := HR2.all
  unfold A10 at c0 z0 d0 d1 d2 d3 d4 d5 d6 d7 d8 d9
  rw [← hC, ← hh, ← hC2]
  have HC2 := Lib.hid hC2
  clear hC hR0 HR2 hh df ds hC2
  go_enter Tryd.func53, Tryd.ntmps53
  go_wp2
  refine bodyPost_ret (results_cell_row rfl _ _ (w.heap.size + 1) 43 C2 (0, 0) _ rfl ?_ Tryd.underlying43 rfl (by rw [HC2.out]; kernel_rfl)) rfl ⟨rfl, ?_⟩
  · rw [HC2.out]; unfold A10
    have := heap_alloc_last (w.alloc (.cells C2 43)) (.cells (A10 h) 43)
    rw [World.size_alloc, HC2.out] at this
    exact this
  · go_grown
theorem row10_keep {w w' : World} {g : Nat} {f : Nat → Int} (k : Below w.heap.size w w') (h : Row10 w g f) : Row10 w' g f := h.keep k
theorem below_via {w w1 w2 : World} {o : Obj} (b1 : Below w.heap.size w w1) (b2 : Below (w1.alloc o).heap.size (w1.alloc o) w2) : Below w.heap.size w w2 := chain (b1.alloc b1.size o) b2
theorem below_viad {w w1 w2 : World} {o : Obj} (b1 : Below w.heap.size w w1) (b2 : Below (w1.alloc o).drew.heap.size (w1.alloc o).drew w2) : Below w.heap.size w w2 := chain (below_drw (b1.alloc b1.size o)) b2
theorem part10 (f : Nat → Int) {k : Nat} (hk : k < 10) (W : World) : (part 3 (A10 f) (k * 1)).run Tryd.prog W = .ok (.int .i64 (f k)) W := by
  rcases (by omega : k = 0 ∨ k = 1 ∨ k = 2 ∨ k = 3 ∨ k = 4 ∨ k = 5 ∨ k = 6 ∨ k = 7 ∨ k = 8 ∨ k = 9) with rfl | rfl | rfl | rfl | rfl | rfl | rfl | rfl | rfl | rfl
  all_goals kernel_rfl
theorem eqInt (a b : Int) (W : World) : (Op.equalIn 9999 3 (.int .i64 a) (.int .i64 b)).run Tryd.prog W = .ok (a == b) W := by kernel_rfl
theorem eqItems10 (f h : Nat → Int) (W : World) : ∀ is : List Nat, (∀ k ∈ is, k < 10) → (Op.eqItems 9999 3 1 (A10 f) (A10 h) is).run Tryd.prog W = .ok (is.all fun k => f k == h k) W := by
  intro is
  induction is with
  | nil => intro _; simp [Op.eqItems]
  | cons k is ih =>
    intro hk
    have h1 := part10 f (hk k (by simp)) W
    have h2 := part10 h (hk k (by simp)) W
    have h3 := ih (fun j hj => hk j (by simp [hj]))
    simp only [Op.eqItems, Sem.run_bind, h1, h2, Result.andThen_ok, eqInt]
    cases hq : (f k == h k) with
    | true => simp [h3, hq]
    | false => simp [hq]
theorem eq10 (f h : Nat → Int) (W : World) : (Op.equalIn 10000 43 (.agg (A10 f)) (.agg (A10 h))).run Tryd.prog W = .ok ((List.range 10).all fun k => f k == h k) W := by
  obtain ⟨i0, hi, _⟩ := info_parts (show (Tryd.prog.info? 3).map (fun i => (i.zero, i.size, i.bytes)) = some (some (.int .i64 0), 1, 8) by kernel_rfl)
  rw [run_equalIn_array (P := Tryd.prog) W 9999 (A10 f) (A10 h) Tryd.underlying43 hi, show Tryd.prog.cellsOf 3 = 1 by kernel_rfl]
  exact eqItems10 f h W (List.range 10) (fun k hk => by simpa using hk)
set_option maxHeartbeats 1000000 in
theorem isShown_any (n b : Int) (w : World) (h0 : 1 ≤ n) (h1 : n ≤ 1000000000000) (hb : 0 ≤ b ∧ b ≤ 9) (htab : Tab w) :
    Calls Tryd.prog 37 #[.int .i64 n, .int .i64 b] w fun e w' => e = .returned (.bool (!(hs b n))) ∧ Below w.heap.size w w' := by
  obtain ⟨s, hs'⟩ := txt_ex n
  obtain ⟨f, hf⟩ : ∃ f : Nat → Int, f = fun d => dct d s.data.toList := ⟨_, rfl⟩
  obtain ⟨d, rfl⟩ : ∃ d : Nat, b = (d : Int) := ⟨b.toNat, by omega⟩
  have hd : d < 10 := by omega
  have HC0 := Lib.hid (countsIn_any n s w (by omega) h1 hs' htab)
  rw [← hf] at HC0
  obtain ⟨h, hh⟩ : ∃ h : Nat → Int, h = wo f d := ⟨_, rfl⟩
  have HWo := Lib.hid (fun W => without_any f d W hd)
  rw [← hh] at HWo
  unfold A10 at HWo HC0
  have hn0 : 0 < n := by omega
  have HS : Hid (((List.range 10).all fun k => f k == h k) = !(hs (d : Int) n)) := by
    show _ = _
    have e1 : hs (d : Int) n = decide (0 < f d) := by
      have := hs_dct (d : Int) hb s.data.toList
      rw [hs' ] at this
      unfold hs hsn
      rw [this, hf, hs', Int.toNat_natCast]
    rw [e1, Bool.eq_iff_iff]
    simp only [List.all_eq_true, List.mem_range, beq_iff_eq, Bool.not_eq_true', decide_eq_false_iff_not]
    constructor
    · intro ha
      have := ha d hd
      rw [hh] at this
      unfold wo at this
      rw [if_pos rfl] at this
      omega
    · intro ha k hk
      rw [hh]; unfold wo
      by_cases e : k = d
      · rw [if_pos e, e]
        have := (dct_bd d s.data.toList).1
        rw [hf] at ha ⊢
        simp only at ha ⊢
        omega
      · rw [if_neg e]
  have hq := fun W => eq10 f h W
  unfold A10 at hq
  obtain ⟨r, hr⟩ : ∃ r, r = (List.range 10).all fun k => f k == h k := ⟨_, rfl⟩
  rw [← hr] at hq HS
  clear hr
  have HF := Lib.hid hf
  have HH := Lib.hid hh
  clear hf hh hs'
  have mixed : Tryd.prog.follows .mixedOrders = true := by kernel_rfl
  clear htab
  go_enter Tryd.func37, Tryd.ntmps37
  go_wp2_with (go_at_call 48; refine HC0.out.mono ?_; rintro e w1 ⟨rfl, b1⟩)
  have HR := Row10.new w1 f
  obtain ⟨d0, d1, d2, d3, d4, d5, d6, d7, d8, d9, df, ds⟩ := HR.all
  unfold A10 at d0 d1 d2 d3 d4 d5 d6 d7 d8 d9
  have HRR := Lib.hid HR
  clear HR df ds
  go_region_with (go_at_call 53; refine (HWo.out _).mono ?_; rintro e w2 ⟨rfl, b2⟩; obtain ⟨e0, e1, e2, e3, e4, e5, e6, e7, e8, e9, _, _⟩ := (row10_keep b2 HRR.out).all; have HB2 : Below w.heap.size w w2 := (by first | exact below_via b1 b2 | exact below_viad b1 b2))
  all_goals go_wp2
  all_goals go_ret
  all_goals exact ⟨ret_bool HS.out, by first | exact HB2 | go_grown⟩
end Go.Proofs.YtdgdjgefjhkpbabDoor
