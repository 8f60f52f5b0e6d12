/-
  The rows of all places with slips that are not told: the model's list.
-/
import Derived.Test.YtdjcgddcgjbboaaDoorSlUn
import Derived.Test.YtdjcgddcgjbboaaDoorSlRwsR
namespace Go.Proofs.YtdjcgddcgjbboaaDoor
open Go.RowKit Go.Deep

/-- The rows of the first places. -/
def rwS (xs : List Int) (m : Int) : Nat → List (List Int)
  | 0 => []
  | k + 1 => rwS xs m k ++ (match untS xs m k with
    | none => []
    | some (a, b) => [[(k : Int), (a : Int), (b : Int)]])
theorem rwS_no {xs : List Int} {m : Int} {k : Nat} (h : untS xs m k = none) : rwS xs m (k + 1) = rwS xs m k := by
  show rwS xs m k ++ _ = _
  rw [h]; exact List.append_nil _
theorem rwS_some {xs : List Int} {m : Int} {k a b : Nat} (h : untS xs m k = some (a, b)) : rwS xs m (k + 1) = rwS xs m k ++ [[(k : Int), (a : Int), (b : Int)]] := by
  show rwS xs m k ++ _ = _
  rw [h]
theorem rwS_len (xs : List Int) (m : Int) (k : Nat) : (rwS xs m k).length ≤ k := by
  induction k with
  | zero => exact Nat.le_refl _
  | succ k ih =>
    cases h : untS xs m k with
    | none => rw [rwS_no h]; omega
    | some ab => rw [rwS_some h, List.length_append]; simp; exact ih
theorem rwS_wide (xs : List Int) (m : Int) (k : Nat) : ∀ r ∈ rwS xs m k, r.length = 3 := by
  induction k with
  | zero => intro r hr; cases hr
  | succ k ih =>
    intro r hr
    cases h : untS xs m k with
    | none => rw [rwS_no h] at hr; exact ih r hr
    | some ab =>
      rw [rwS_some h] at hr
      rcases List.mem_append.1 hr with h1 | h1
      · exact ih r h1
      · simp at h1; rw [h1]; rfl
/-- append of two numbers to a new row of one. -/
theorem wpList_append_pair (w : World) {ops : Array Oper} {rest : List Oper} {o : Oper} {a : Act} {Q : Exit → Act → World → Prop} (hgd : o.guard = none) (s x : Operand)
    (ho : o.op = .call { callee := .builtin .append, args := #[s, x], argTypes := #[22, 22] })
    (k : Nat) (p a0 b0 : Int) (hs : a.eval s = .slice (some ⟨k, 0, none⟩) 1 1) (hb : Blk w k #[.int .i64 p] 3) (C : Nat) (u : Value) (hx : a.eval x = u) (hu : Ints C [a0, b0] u w)
    (h : ∀ g' c' w', Ints k [p, a0, b0] (.slice (some ⟨g', 0, none⟩) 3 c') w' → Below k w w' → wpList Tryd.prog ops Q rest (a.put o.dst (.slice (some ⟨g', 0, none⟩) 3 c')) w') :
    wpList Tryd.prog ops Q (o :: rest) a w := by
  obtain ⟨i0, hi, hz0, hz1, hz2⟩ := info_parts (show (Tryd.prog.info? 3).map (fun i => (i.zero, i.size, i.bytes)) = some (some (.int .i64 0), 1, 8) by kernel_rfl)
  have hown : w.ownsRow k 3 1 (.slice (some ⟨k, 0, none⟩) 1 1) 1 [.int .i64 p] := ⟨rfl, .inr ⟨k, 1, _, rfl, Nat.le_refl _, hb, Nat.le_refl _, by unfold maxLen; omega, rfl, rfl⟩⟩
  have hk := hb.lt
  rcases hu.form with ⟨ao, cap, rfl, h0⟩ | ⟨g, cap, rfl, _, hg, hc, _⟩
  · simp at h0
  · refine wpList_append_own_at _ hgd s x 22 ho k 3 i0 (.int .i64 0) 1 8 Tryd.underlying22 hi hz0 hz1 hz2 rfl (by decide) _ 1 [.int .i64 p] hs hown ⟨g, 0, none⟩ 2 cap [.int .i64 a0, .int .i64 b0] hx rfl ?_ ?_ (by unfold maxLen; omega) (by omega) (by omega) ?_
    · intro j z hj
      match j, hj with
      | 0, hj => simp at hj; subst hj; simpa [Addr.add] using hc 0 (by simp)
      | 1, hj => simp at hj; subst hj; simpa [Addr.add] using hc 1 (by simp)
    · intro z hz; simp at hz; rcases hz with rfl | rfl <;> rfl
    · intro v' w' h1 hgr _ _
      have hi : Ints k [p, a0, b0] v' w' := by simpa [Ints] using h1
      rcases hi.form with ⟨ao, c', rfl, h0⟩ | ⟨g', c', rfl, _⟩
      · simp at h0
      exact h g' c' w' hi ((Below.refl k w).grown hgr (by omega) (fun q hq => (World.ownsRow.lt hown q hq).1))
theorem CkOk.long {xs : List Int} {m : Int} (ho : CkOk xs m) : xs.length ≤ 12 := ho.len
set_option maxRecDepth 100000 in
set_option maxHeartbeats 4000000 in
theorem slListS_any (xs : List Int) (m : Int) (v : Value) (w : World) (ho : CkOk xs m) (h2 : 2 ≤ xs.length) (h : RdI xs v w) :
    Calls Tryd.prog 34 #[.agg #[v, .int .i64 m], .bool false] w fun e w' => (∃ u, e = .returned u ∧ SRw w.heap.size (rwS xs m xs.length) u w') ∧ Below w.heap.size w w' := by
  have HV := Lib.hid h
  have hn12 := ho.long
  obtain ⟨a, cap, rfl, _⟩ := h
  have HUN := Lib.hid (fun (p : Nat) (hp : p < xs.length) W hr => slUntS_any xs m p _ W ho hp hr : ∀ (p : Nat) (hp : p < xs.length) W, RdI xs (.slice a xs.length cap) W → _)
  obtain ⟨n, hnn⟩ : ∃ n, n = xs.length := ⟨_, rfl⟩
  rw [← hnn] at HV HUN hn12 h2
  rw [← hnn]
  clear hnn ho
  go_enter Tryd.func34, Tryd.ntmps34
  go_wp2
  go_loopw [5, 12] (fun ov iv wr => ∃ k : Nat, k ≤ n ∧ iv = .int .i64 k ∧ Hid (SRw (w.alloc (.cells #[.slice a n cap, .int .i64 m] 29)).heap.size (rwS xs m k) ov wr) ∧ Below (w.alloc (.cells #[.slice a n cap, .int .i64 m] 29)).heap.size (w.alloc (.cells #[.slice a n cap, .int .i64 m] 29)) wr) (fun _ iv _ => n - (intOf iv).toNat)
  case atStart => exact ⟨0, Nat.zero_le _, rfl, SRw.nil _ _, Below.refl _ _⟩
  case round =>
    obtain ⟨k, hk, rfl, HR, hbl⟩ := hrel
    obtain ⟨c0, c1, hz⟩ := box2_kept hbl
    have B1 := chain ((Below.refl w.heap.size w).alloc (Nat.le_refl _) (.cells #[.slice a n cap, .int .i64 m] 29)) hbl
    have s0 := hbl.size
    have s1 : w.heap.size < wr.heap.size := hz
    by_cases hlt : k = n
    · have hke : ¬ (k : Int) < (n : Int) := by omega
      go_wp2
      go_ret
      exact ⟨⟨_, rfl, by rw [← hlt]; exact HR.out.mono (by simp)⟩, B1⟩
    · have hne : (k : Int) < (n : Int) := by omega
      have A1 := HV.out.below B1
      have hU := HUN.out k (by omega)
      cases hun : untS xs m k with
      | none =>
        rw [hun] at hU
        have HU : Hid (∀ W, RdI xs (.slice a n cap) W → Calls Tryd.prog 61 #[.agg #[.slice a n cap, .int .i64 m], .int .i64 k, .bool false] W fun e w' => ∃ u, e = .returned (.tuple #[u, .bool false]) ∧ Ints W.heap.size (pl none) u w' ∧ Below W.heap.size W w') := hU
        have HNX := Lib.hid (rwS_no hun)
        clear hU hun hlt
        go_wp2_with (go_at_call 61; (with_reducible refine (HU.out _ A1).mono ?_); rintro e w2 ⟨u, rfl, hu, b2⟩; have HR2 := Lib.hid (HR.out.below b2))
        go_roundw
        case rel => exact ⟨k + 1, by omega, by go_num, by show SRw _ _ _ _; rw [HNX.out]; exact HR2.out, hbl.trans (b2.mono s0)⟩
        case measure => simp [intOf]; omega
      | some ab =>
        obtain ⟨a0, b0⟩ := ab
        rw [hun] at hU
        have HU : Hid (∀ W, RdI xs (.slice a n cap) W → Calls Tryd.prog 61 #[.agg #[.slice a n cap, .int .i64 m], .int .i64 k, .bool false] W fun e w' => ∃ u, e = .returned (.tuple #[u, .bool true]) ∧ Ints W.heap.size [(a0 : Int), (b0 : Int)] u w' ∧ Below W.heap.size W w') := hU
        have HNX := Lib.hid (rwS_some hun)
        have hrl : (rwS xs m k).length ≤ 1000000 := Nat.le_trans (rwS_len xs m k) (by omega)
        clear hU hun hlt
        go_wp2_with (first
          | (go_at_call 61; (with_reducible refine (HU.out _ A1).mono ?_); rintro e w2 ⟨u, rfl, hu, b2⟩; have HR2 := Lib.hid (HR.out.below b2); have HU2 := Lib.hid hu; have s2 := b2.size; have B2 := hbl.trans (b2.mono s0))
          | (at_builtin; refine wpList_append_pair _ rfl _ _ rfl w2.heap.size (k : Int) (a0 : Int) (b0 : Int) rfl (Blk.new _ _ _) _ _ rfl (HU2.out.below ((Below.refl _ _).alloc (Nat.le_refl _) _)) ?_; intro g3 c3 w3 i3 b3; have B3 : Below w2.heap.size w2 w3 := ((Below.refl _ _).alloc (Nat.le_refl _) _).trans b3; have HI3 := Lib.hid i3; have s3 := B3.size)
          | (at_builtin; refine wpList_append_srw _ rfl _ _ rfl (w.alloc (.cells #[.slice a n cap, .int .i64 m] 29)).heap.size (rwS xs m k) _ rfl ((HR2.out.below B3).below ((Below.refl _ _).alloc (Nat.le_refl _) _)) w3.heap.size (.slice (some ⟨g3, 0, none⟩) 3 c3) [(k : Int), (a0 : Int), (b0 : Int)] rfl (by simp) (((HI3.out.mono (by omega)) : Ints (w.alloc (.cells #[.slice a n cap, .int .i64 m] 29)).heap.size _ _ _).below ((Below.refl _ _).alloc (Nat.le_refl _) _)) (fun q hq hq2 => by have e1 := HR2.out.own_lt q hq; have e2 := (World.ownsRow.lt HI3.out q hq2).1; omega) hrl (by simp; omega) ?_; intro v4 w4 r4 b4; have HR4 := Lib.hid r4))
        go_roundw
        case rel =>
          exact ⟨k + 1, by omega, by go_num, by show SRw _ _ _ _; rw [HNX.out]; exact HR4.out, ((B2.trans (B3.mono (by omega))).alloc (by omega) _).trans b4⟩
        case measure => simp [intOf]; omega
end Go.Proofs.YtdjcgddcgjbboaaDoor
