/-
  Which slips are not told, by zeros alone.
-/
import Derived.Test.YtdjcgddcgjbboaaDoorSlSd
import Derived.Test.YtdjcgddcgjbboaaDoorSlPair
import Derived.Laws.ResultCell
namespace Go.Proofs.YtdjcgddcgjbboaaDoor
open Go.RowKit Go.Conc

theorem itoa_0 (w : World) : Calls Tryd.prog 54 #[.int .i64 0] w fun e w' => e = .returned (.string ⟨#[48]⟩) ∧ Below w.heap.size w w' := itoa_d 0 w (by omega)
/-- So many zeros. -/
def zS (n : Nat) : ByteArray := ⟨(zer n).toArray⟩
theorem zS_list (n : Nat) : (zS n).data.toList = zer n := rfl
theorem zS_size (n : Nat) : (zS n).size = n := by show (zer n).toArray.size = n; simp [zer]
theorem rep48 (q : Nat) : Lib.repeatL [48] q = zer q := by
  induction q with
  | zero => rfl
  | succ q ih => unfold zer at ih ⊢; rw [List.replicate_succ, ← ih]; rfl
theorem zS_snoc (q : Nat) : (⟨(zer q).toArray⟩ : ByteArray) ++ ⟨#[48]⟩ = zS (q + 1) := by
  apply ByteArray.ext
  rw [ByteArray.data_append]
  show (zer q).toArray ++ #[48] = (zer (q + 1)).toArray
  apply Array.ext'
  simp [zer, List.replicate_succ']
theorem rep_any (q : Nat) (w : World) (h : q ≤ 12) : Calls Tryd.prog 90 #[.string ⟨#[48]⟩, .int .i64 q] w fun e w' => e = .returned (.string ⟨(zer q).toArray⟩) ∧ Below w.heap.size w w' := by
  have := Tryd.strings_Repeat ⟨#[48]⟩ q w (by omega) (by show 1 * q ≤ _; omega)
  rw [show (⟨#[48]⟩ : ByteArray).data.toList = [48] from rfl, rep48] at this
  exact this
set_option maxHeartbeats 1000000 in
theorem digits0_any (n : Nat) (w : World) (h1 : 1 ≤ n) (hn : n ≤ 12) :
    Calls Tryd.prog 63 #[.int .i64 0, .int .i64 n] w fun e w' => e = .returned (.string (zS n)) ∧ Below w.heap.size w w' := by
  obtain ⟨q, rfl⟩ : ∃ q, n = q + 1 := ⟨n - 1, by omega⟩
  have hsum : ((q + 1 : Nat) : Int) - 1 = (q : Int) := by omega
  have hwq : IntKind.i64.wrap (q : Int) = (q : Int) := IntWalk.i64_in _ (by omega)
  have hsz : (⟨#[48]⟩ : ByteArray).size = 1 := rfl
  have hzq : (⟨(zer q).toArray⟩ : ByteArray).size = q := zS_size q
  have hmax : max (0 : Int) (q : Int) = (q : Int) := by omega
  have HZ : Hid (zS (q + 1) = (⟨(zer q).toArray⟩ : ByteArray) ++ ⟨#[48]⟩) := (zS_snoc q).symm
  rw [HZ.out]
  obtain ⟨nn, hnn⟩ : ∃ nn : Nat, nn = q + 1 := ⟨_, rfl⟩
  rw [← hnn] at hsum ⊢
  go_enter Tryd.func63, Tryd.ntmps63
  go_wp2_with (first | (go_at_call 54; (with_reducible refine (itoa_0 _).mono ?_); rintro e w1 ⟨rfl, b1⟩) | (go_at_call 90; (with_reducible refine (rep_any q _ (by omega)).mono ?_); rintro e w2 ⟨rfl, b2⟩))
  go_ret
  exact ⟨rfl, chain b1 b2⟩
theorem results_row_tmp {P : Program} {fn : Func} {p u : Tmp} {ty : TypeId} (h : fn.results = #[.cell p ty, .tmp u]) (tmps : Array Value) (w : World) (g : Nat) (t : TypeId) (cs : Array Value) (fr : Nat × Nat) (d : TypeDesc)
    (hp : tmps.getD p undef = .pointer (some ⟨g, 0, none⟩)) (hg : w.heap[g]? = some (.cells cs t fr)) (hu : P.underlying ty = some d) (hd : (match d with | .struct _ | .array _ _ => true | _ => false) = true) (hi : (P.info? ty).map (·.size) = some cs.size) :
    (results fn tmps).run P w = .ok (.tuple #[.agg cs, tmps.getD u undef]) w := by
  rw [results_cell_tmp h, hp]
  simp [asAddr, Result.andThen, run_loadVar_row w g t ty cs fr d hg hu hd hi]
theorem blk3 {w : World} {b : Nat} {x y z : Value} {T : TypeId} (h : w.heap[b]? = some (.cells #[x, y, z] T (0, 0))) : w.cell? ⟨b, 0, none⟩ = some x ∧ w.cell? ⟨b, 1, none⟩ = some y ∧ w.cell? ⟨b, 2, none⟩ = some z ∧ (∀ i, w.frozen? ⟨b, i, none⟩ = false) ∧ w.shape? b = some (T, 3) := by
  refine ⟨by rw [Lib.cell_of_heap h]; rfl, by rw [Lib.cell_of_heap h]; rfl, by rw [Lib.cell_of_heap h]; rfl, fun i => Lib.frozen_of_heap h i, ?_⟩
  unfold World.shape?; rw [h]; rfl
/-- What untoldSlip answers at a place. -/
def SlAt (P : Nat) (o : Option (Nat × Nat)) (u : Value) : Prop := (∃ x y z : Int, u = .agg #[.int .i64 x, .int .i64 y, .int .i64 z]) ∧ ∀ a b : Nat, o = some (a, b) → u = .agg #[.int .i64 P, .int .i64 a, .int .i64 b]
set_option maxHeartbeats 2000000 in
theorem untSl_any (xs : List Int) (m : Int) (P : Nat) (v : Value) (w : World) (ho : CkOk xs m) (hp : P < xs.length) (h : RdI xs v w) :
    Calls Tryd.prog 37 #[.agg #[v, .int .i64 m], .int .i64 P] w fun e w' => (∃ u, e = .returned (.tuple #[u, .bool (untS xs m P).isSome]) ∧ SlAt P (untS xs m P) u) ∧ Below w.heap.size w w' := by
  have hU := untS_of xs m P hp
  have HV := Lib.hid h
  have hsd := fun W hr => sound_any xs m (zS xs.length) P v W ho (zS_size _) (by rw [zS_size]; exact hp) (fun d hd9 => putD_dig _ _ _ hd9 (zer_dig _)) hr
  obtain ⟨L, hL⟩ : ∃ L, L = sdg xs m (zer xs.length) P 10 := ⟨_, rfl⟩
  rw [zS_list, ← hL] at hsd
  rw [← hL] at hU
  have hn12 : xs.length ≤ 12 := ho.len
  have hn1 : 1 ≤ xs.length := by omega
  obtain ⟨a, cap, rfl, _⟩ := h
  obtain ⟨n, hnn⟩ : ∃ n, n = xs.length := ⟨_, rfl⟩
  rw [← hnn] at HV hsd hn12 hn1 hp ⊢
  obtain ⟨o, hoo⟩ : ∃ o, o = untS xs m P := ⟨_, rfl⟩
  rw [← hoo] at hU ⊢
  have HSD := Lib.hid hsd
  clear hsd hL ho hnn hoo
  match L, hU, HSD with
  | [], hU, _ => exact hU.elim
  | [x], hU, HSD =>
    obtain rfl : o = none := hU
    obtain ⟨rest, hrest⟩ : ∃ rest : List Int, rest = [] := ⟨_, rfl⟩
    rw [← hrest] at HSD
    have HRE := Lib.hid hrest
    clear hU hrest
    go_enter Tryd.func37, Tryd.ntmps37
    go_wp2
    obtain ⟨W, hW⟩ : ∃ W, W = (w.alloc (.cells #[.slice a n cap, .int .i64 m] 29)).alloc (.cells #[.int .i64 0, .int .i64 0, .int .i64 0] 81) := ⟨_, rfl⟩
    have hWb : Below w.heap.size w W := by rw [hW]; exact ((Below.refl _ _).alloc (Nat.le_refl _) _).alloc (by rw [World.size_alloc]; omega) _
    have c0 : W.cell? ⟨w.heap.size, 0, none⟩ = some (.slice a n cap) := by rw [hW]; simp
    have c1 : W.cell? ⟨w.heap.size, 1, none⟩ = some (.int .i64 m) := by rw [hW]; simp
    have hWz : W.heap.size = w.heap.size + 2 := by rw [hW, World.size_alloc, World.size_alloc]
    have hres : W.heap[w.heap.size + 1]? = some (.cells #[.int .i64 0, .int .i64 0, .int .i64 0] 81 (0, 0)) := by rw [hW]; have := heap_alloc_new (w.alloc (.cells #[.slice a n cap, .int .i64 m] 29)) (.cells #[.int .i64 0, .int .i64 0, .int .i64 0] 81); rw [World.size_alloc] at this; exact this
    rw [← hW]
    have hz : w.heap.size < W.heap.size := by omega
    have HVW : Hid (RdI xs (.slice a n cap) W) := HV.out.below hWb
    have HRES := Lib.hid hres
    clear hW hres
    go_region_held3 (fun w' => w'.cell? ⟨w.heap.size, 0, none⟩ = some (.slice a n cap) ∧ w'.cell? ⟨w.heap.size, 1, none⟩ = some (.int .i64 m))
      (first | go_keep | exact ⟨k0, k1⟩ | exact ⟨l0, l1⟩)
      (first
      | (go_at_call 63; (with_reducible refine (digits0_any n _ hn1 hn12).mono ?_); rintro e w3 ⟨rfl, b3⟩; have B3 : Below W.heap.size W w3 := chain (w := W) (by go_grown) b3; obtain ⟨k0, k1, kz⟩ := keep2 hz c0 c1 B3)
      | (go_at_call 44; (with_reducible refine (HSD.out _ (HVW.out.below B3)).mono ?_); rintro e w4 ⟨rfl, hC, b4⟩; have B4 : Below W.heap.size W w4 := chain B3 b4; obtain ⟨l0, l1, lz⟩ := keep2 hz c0 c1 B4; obtain ⟨sn, rn, hcc⟩ := hC))
    all_goals
      have h3z := B3.size
      have hlt4 : w3.heap.size + 1 < w4.heap.size := (Array.getElem?_eq_some_iff.1 hcc).1
      go_wp2_with (first
        | (go_at_call 64; (with_reducible refine (next_cons _ x rest sn rn w4 hcc).mono ?_); rintro e w5 ⟨rfl, hw5⟩; have B5 : Below W.heap.size W w5 := (by rw [hw5]; exact below_setChan B4 (by omega) _ _ _ _ _ _); have hc5 : w5.heap[w3.heap.size + 1]? = some (.chan 10 (cvs rest) false sn (rn + 1) false) := (by rw [hw5]; exact heap_setChan _ _ _ _ _ _ _ _ hlt4); have hlt5 : w3.heap.size + 1 < w5.heap.size := (Array.getElem?_eq_some_iff.1 hc5).1; clear hw5)
        | (go_at_call 64; (with_reducible refine (next_nil _ sn (rn + 1) w5 (by rw [hc5, HRE.out])).mono ?_); rintro e w6 ⟨rfl, hw6⟩; have B6 : Below W.heap.size W w6 := (by rw [hw6]; exact B5); clear hw6; have hr6 : w6.heap[w.heap.size + 1]? = some (.cells #[.int .i64 0, .int .i64 0, .int .i64 0] 81 (0, 0)) := (B6.block _ (by omega)).trans HRES.out; have HR6 := Lib.hid hr6; obtain ⟨s0, s1, s2, sf, ss⟩ := blk3 hr6; clear hr6))
      refine bodyPost_ret (results_row_tmp rfl _ _ (w.heap.size + 1) 81 #[.int .i64 P, .int .i64 x, .int .i64 0] (0, 0) _ rfl ?_ Tryd.underlying81 rfl (by kernel_rfl)) rfl ?_
      · simp [World.setCell, Array.getElem?_modify, HR6.out]
      · have hB6 : Below w.heap.size w w6 := chain hWb B6
        exact ⟨⟨_, rfl, ⟨_, _, _, rfl⟩, fun a b e => by simp at e⟩, ((hB6.setCell (Nat.le_succ _) _).setCell (Nat.le_succ _) _).setCell (Nat.le_succ _) _⟩
  | x :: y :: rest', hU, HSD =>
    obtain ⟨rfl, d, rfl, rfl⟩ := hU
    obtain ⟨x, hx⟩ : ∃ x : Int, x = 0 := ⟨_, rfl⟩
    rw [← hx] at HSD
    have HX := Lib.hid hx
    obtain ⟨rest, hrest⟩ : ∃ rest : List Int, rest = (d : Int) :: rest' := ⟨_, rfl⟩
    rw [← hrest] at HSD
    have HRE := Lib.hid hrest
    clear hrest hx
    go_enter Tryd.func37, Tryd.ntmps37
    go_wp2
    obtain ⟨W, hW⟩ : ∃ W, W = (w.alloc (.cells #[.slice a n cap, .int .i64 m] 29)).alloc (.cells #[.int .i64 0, .int .i64 0, .int .i64 0] 81) := ⟨_, rfl⟩
    have hWb : Below w.heap.size w W := by rw [hW]; exact ((Below.refl _ _).alloc (Nat.le_refl _) _).alloc (by rw [World.size_alloc]; omega) _
    have c0 : W.cell? ⟨w.heap.size, 0, none⟩ = some (.slice a n cap) := by rw [hW]; simp
    have c1 : W.cell? ⟨w.heap.size, 1, none⟩ = some (.int .i64 m) := by rw [hW]; simp
    have hWz : W.heap.size = w.heap.size + 2 := by rw [hW, World.size_alloc, World.size_alloc]
    have hres : W.heap[w.heap.size + 1]? = some (.cells #[.int .i64 0, .int .i64 0, .int .i64 0] 81 (0, 0)) := by rw [hW]; have := heap_alloc_new (w.alloc (.cells #[.slice a n cap, .int .i64 m] 29)) (.cells #[.int .i64 0, .int .i64 0, .int .i64 0] 81); rw [World.size_alloc] at this; exact this
    rw [← hW]
    have hz : w.heap.size < W.heap.size := by omega
    have HVW : Hid (RdI xs (.slice a n cap) W) := HV.out.below hWb
    have HRES := Lib.hid hres
    clear hW hres
    go_region_held3 (fun w' => w'.cell? ⟨w.heap.size, 0, none⟩ = some (.slice a n cap) ∧ w'.cell? ⟨w.heap.size, 1, none⟩ = some (.int .i64 m))
      (first | go_keep | exact ⟨k0, k1⟩ | exact ⟨l0, l1⟩)
      (first
      | (go_at_call 63; (with_reducible refine (digits0_any n _ hn1 hn12).mono ?_); rintro e w3 ⟨rfl, b3⟩; have B3 : Below W.heap.size W w3 := chain (w := W) (by go_grown) b3; obtain ⟨k0, k1, kz⟩ := keep2 hz c0 c1 B3)
      | (go_at_call 44; (with_reducible refine (HSD.out _ (HVW.out.below B3)).mono ?_); rintro e w4 ⟨rfl, hC, b4⟩; have B4 : Below W.heap.size W w4 := chain B3 b4; obtain ⟨l0, l1, lz⟩ := keep2 hz c0 c1 B4; obtain ⟨sn, rn, hcc⟩ := hC))
    all_goals
      have h3z := B3.size
      have hlt4 : w3.heap.size + 1 < w4.heap.size := (Array.getElem?_eq_some_iff.1 hcc).1
      go_wp2_with (first
        | (go_at_call 64; (with_reducible refine (next_cons _ x rest sn rn w4 hcc).mono ?_); rintro e w5 ⟨rfl, hw5⟩; have B5 : Below W.heap.size W w5 := (by rw [hw5]; exact below_setChan B4 (by omega) _ _ _ _ _ _); have hc5 : w5.heap[w3.heap.size + 1]? = some (.chan 10 (cvs rest) false sn (rn + 1) false) := (by rw [hw5]; exact heap_setChan _ _ _ _ _ _ _ _ hlt4); have hlt5 : w3.heap.size + 1 < w5.heap.size := (Array.getElem?_eq_some_iff.1 hc5).1; clear hw5)
        | (go_at_call 64; (with_reducible refine (next_cons _ (d : Int) rest' sn (rn + 1) w5 (by rw [hc5, HRE.out])).mono ?_); rintro e w6 ⟨rfl, hw6⟩; have B6 : Below W.heap.size W w6 := (by rw [hw6]; exact below_setChan B5 (by omega) _ _ _ _ _ _); clear hw6; have hr6 : w6.heap[w.heap.size + 1]? = some (.cells #[.int .i64 0, .int .i64 0, .int .i64 0] 81 (0, 0)) := (B6.block _ (by omega)).trans HRES.out; have HR6 := Lib.hid hr6; obtain ⟨s0, s1, s2, sf, ss⟩ := blk3 hr6; clear hr6))
      refine bodyPost_ret (results_row_tmp rfl _ _ (w.heap.size + 1) 81 #[.int .i64 P, .int .i64 x, .int .i64 d] (0, 0) _ rfl ?_ Tryd.underlying81 rfl (by kernel_rfl)) rfl ?_
      · simp [World.setCell, Array.getElem?_modify, HR6.out]
      · have hB6 : Below w.heap.size w w6 := chain hWb B6
        exact ⟨⟨_, rfl, ⟨_, _, _, rfl⟩, fun a b e => by simp only [Option.some.injEq, Prod.mk.injEq] at e; obtain ⟨rfl, rfl⟩ := e; rw [HX.out]; rfl⟩, ((hB6.setCell (Nat.le_succ _) _).setCell (Nat.le_succ _) _).setCell (Nat.le_succ _) _⟩
end Go.Proofs.YtdjcgddcgjbboaaDoor
