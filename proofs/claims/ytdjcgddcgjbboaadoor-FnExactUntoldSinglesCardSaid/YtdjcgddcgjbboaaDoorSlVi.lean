/-
  The rows of all places with slips that are not told: the program's list.
-/
import Derived.Test.YtdjcgddcgjbboaaDoorSlVl
import Derived.Test.YtdjcgddcgjbboaaDoorSlZs
namespace Go.Proofs.YtdjcgddcgjbboaaDoor
open Go.RowKit Go.Deep
set_option maxRecDepth 100000

theorem lst3_any (p a b : Int) (w : World) :
    Calls Tryd.prog 62 #[.agg #[.int .i64 p, .int .i64 a, .int .i64 b]] w fun e w' => (∃ g, e = .returned (.slice (some ⟨g, 0, none⟩) 3 3) ∧ w.heap.size ≤ g ∧ Blk w' g #[.int .i64 p, .int .i64 a, .int .i64 b] 3) ∧ Below w.heap.size w w' := by
  go_enter Tryd.func62, Tryd.ntmps62
  go_wp2
  go_ret
  exact ⟨⟨_, rfl, by simp, by have h := Blk.new (w.alloc (.cells #[.int .i64 p, .int .i64 a, .int .i64 b] 81)) #[.int .i64 p, .int .i64 a, .int .i64 b] 3; rwa [World.size_alloc] at h⟩, by go_grown⟩
set_option maxHeartbeats 4000000 in
theorem untAtS_any (xs : List Int) (m : Int) (kI : Int) (v : Value) (w : World) (hn : xs.length ≤ 1048576) (hK : chkB xs m = true → kI = ((xs.length : Nat) : Int)) (h : RdI xs v w) :
    Calls Tryd.prog 36 #[.agg #[v, .int .i64 m], .int .i64 kI, .func (.func 37) #[] #[]] w fun e w' => (∃ u, e = .returned (.tuple #[u, .bool (chkB xs m)]) ∧ Rws w.heap.size (if chkB xs m then rwS xs m xs.length else []) u w') ∧ Below w.heap.size w w' := by
  have HV := Lib.hid h
  cases hb : chkB xs m with
  | false =>
    go_enter Tryd.func36, Tryd.ntmps36
    go_wp2_with (go_at_call 53; (with_reducible refine (isCheck_any xs m v _ hn (HV.out.below (by go_grown))).mono ?_); rintro e w1 ⟨rfl, b1⟩; rw [hb])
    go_ret2
    exact ⟨⟨_, rfl, Rws.nil _ _⟩, by first | exact b1 | exact chain (w := w) (by go_grown) b1⟩
  | true =>
    obtain ⟨h2, ho⟩ := (chkB_iff _ _).1 hb
    have hn12 := ho.long
    obtain ⟨a, cap, rfl, _⟩ := h
    obtain rfl := hK hb
    have HIC : Hid (∀ W, RdI xs (.slice a xs.length cap) W → Calls Tryd.prog 53 #[.agg #[.slice a xs.length cap, .int .i64 m]] W fun e w' => e = .returned (.bool true) ∧ Below W.heap.size W w') := fun W hr => by have := isCheck_any xs m _ W hn hr; rw [hb] at this; exact this
    have HUN := Lib.hid (fun (p : Nat) (hp : p < xs.length) W hr => untSl_any xs m p _ W ho hp hr : ∀ (p : Nat) (hp : p < xs.length) W, RdI xs (.slice a xs.length cap) W → _)
    obtain ⟨n, hnn⟩ : ∃ n, n = xs.length := ⟨_, rfl⟩
    rw [← hnn] at HV HUN HIC hn12 h2 ⊢
    have HKN : Hid (∀ k, k < n → k < n) := fun k hk => by omega
    have hK12 : n ≤ 12 := by omega
    clear hnn ho hb hn h2
    go_enter Tryd.func36, Tryd.ntmps36
    go_wp2_with (go_at_call 53; (with_reducible refine (HIC.out _ (HV.out.below (by go_grown))).mono ?_); rintro e w1 ⟨rfl, b1⟩)
    go_loopw [8, 16] (fun ov iv wr => ∃ k : Nat, k ≤ n ∧ iv = .int .i64 k ∧ Hid (Rws (w.alloc (.cells #[.slice a n cap, .int .i64 m] 29)).heap.size (rwS xs m k) ov wr) ∧ Below (w.alloc (.cells #[.slice a n cap, .int .i64 m] 29)).heap.size (w.alloc (.cells #[.slice a n cap, .int .i64 m] 29)) wr) (fun _ iv _ => n - (intOf iv).toNat)
    case atStart => exact ⟨0, Nat.zero_le _, rfl, Rws.nil _ _, b1⟩
    case round =>
      obtain ⟨k, hk, rfl, HR, hbl⟩ := hrel
      obtain ⟨c0, c1, hz⟩ := box2_kept hbl
      have B1 := chain ((Below.refl w.heap.size w).alloc (Nat.le_refl _) (.cells #[.slice a n cap, .int .i64 m] 29)) hbl
      have s0 := hbl.size
      have s1 : w.heap.size < wr.heap.size := hz
      by_cases hlt : k < n
      · have A1 := HV.out.below B1
        have hU := HUN.out k (HKN.out k hlt)
        cases hun : untS xs m k with
        | none =>
          rw [hun] at hU
          have HU : Hid (∀ W, RdI xs (.slice a n cap) W → Calls Tryd.prog 37 #[.agg #[.slice a n cap, .int .i64 m], .int .i64 k] W fun e w' => (∃ x y z : Int, e = .returned (.tuple #[.agg #[.int .i64 x, .int .i64 y, .int .i64 z], .bool false])) ∧ Below W.heap.size W w') := fun W hr => (hU W hr).mono (fun e w' ⟨⟨u, h1, ⟨x, y, z, h2⟩, _⟩, h3⟩ => ⟨⟨x, y, z, by rw [h1, h2]; rfl⟩, h3⟩)
          have HNX := Lib.hid (rwS_no hun)
          clear hU hun
          go_wp2_with (go_at_call 37; (with_reducible refine (HU.out _ A1).mono ?_); rintro e w2 ⟨⟨x, y, z, rfl⟩, b2⟩; have HR2 := Lib.hid (HR.out.below b2))
          go_roundw
          case rel => exact ⟨k + 1, by omega, by go_num, by show Rws _ _ _ _; rw [HNX.out]; exact HR2.out.below ((Below.refl _ _).alloc (Nat.le_refl _) _), (hbl.trans (b2.mono s0)).alloc (by have := b2.size; omega) _⟩
          case measure => simp [intOf]; omega
        | some ab =>
          obtain ⟨a0, b0⟩ := ab
          rw [hun] at hU
          have HU : Hid (∀ W, RdI xs (.slice a n cap) W → Calls Tryd.prog 37 #[.agg #[.slice a n cap, .int .i64 m], .int .i64 k] W fun e w' => e = .returned (.tuple #[.agg #[.int .i64 k, .int .i64 a0, .int .i64 b0], .bool true]) ∧ Below W.heap.size W w') := fun W hr => (hU W hr).mono (fun e w' ⟨⟨u, h1, _, h2⟩, h3⟩ => ⟨by rw [h1, h2 a0 b0 rfl]; rfl, h3⟩)
          have HNX := Lib.hid (rwS_some hun)
          have hrl : (rwS xs m k).length ≤ 1000000 := Nat.le_trans (rwS_len xs m k) (by omega)
          clear hU hun
          go_wp2_with (first
            | (go_at_call 37; (with_reducible refine (HU.out _ A1).mono ?_); rintro e w2 ⟨rfl, b2⟩; have s2 := b2.size)
            | (go_at_call 62; (refine (lst3_any _ _ _ _).mono ?_); rintro e w3 ⟨⟨g3, rfl, hg3, hb3⟩, b3⟩; have HB3 := Lib.hid hb3; have B3 : Below wr.heap.size wr w3 := (b2.alloc (by omega) _).trans (b3.mono (by simp; omega)); have s3 := B3.size; have s4 : wr.heap.size ≤ g3 := by (simp at hg3; omega))
            | (at_builtin; refine wpList_append_rw _ rfl _ _ rfl (w.alloc (.cells #[.slice a n cap, .int .i64 m] 29)).heap.size (rwS xs m k) _ rfl wr HR.out (B3.alloc (by omega) _) w3.heap.size g3 [(k : Int), (a0 : Int), (b0 : Int)] rfl (by simp [rowV]) (Blk.alloc HB3.out _) s4 hrl s0 ?_; intro v4 w4 r4 b4; have HR4 := Lib.hid r4))
          go_roundw
          case rel => exact ⟨k + 1, by omega, by go_num, by show Rws _ _ _ _; rw [HNX.out]; exact HR4.out, ((hbl.trans (B3.mono s0)).alloc (by omega) _).trans b4⟩
          case measure => simp [intOf]; omega
      · have hke : k = n := by omega
        go_wp2
        go_ret2
        exact ⟨⟨_, rfl, by rw [← hke]; exact HR.out.mono (by simp)⟩, B1⟩
/-- What UntoldSingles answers. -/
def usgA (xs : List Int) (m : Int) : List (List Int) := if chkB xs m then rwS xs m xs.length else []
theorem iUsg_any (xs : List Int) (m : Int) (v : Value) (w : World) (hn : xs.length ≤ 1048576) (h : RdI xs v w) :
    Calls Tryd.prog 11 #[.agg #[v, .int .i64 m]] w fun e w' => (∃ u, e = .returned (.tuple #[u, .bool (chkB xs m)]) ∧ Rws w.heap.size (usgA xs m) u w') ∧ Below w.heap.size w w' := by
  have HV := Lib.hid h
  obtain ⟨a, cap, rfl, _⟩ := h
  have HA := Lib.hid (fun W hr => untAtS_any xs m (xs.length : Int) _ W hn (fun _ => rfl) hr : ∀ W, RdI xs (.slice a xs.length cap) W → _)
  have HU : Hid ((if chkB xs m then rwS xs m xs.length else []) = usgA xs m) := rfl
  rw [HU.out] at HA
  obtain ⟨n, hnn⟩ : ∃ n, n = xs.length := ⟨_, rfl⟩
  rw [← hnn] at HV HA hn ⊢
  clear hnn
  go_enter Tryd.func11, Tryd.ntmps11
  go_wp2_with (go_at_call 36; (with_reducible refine (HA.out _ (HV.out.below (by go_grown))).mono ?_); rintro e w1 ⟨⟨u, rfl, hu⟩, b1⟩)
  go_ret2
  exact ⟨⟨_, rfl, hu.mono (by simp)⟩, chain (w := w) (by go_grown) b1⟩
theorem sUsg_any (xs : List Int) (m : Int) (v : Value) (w : World) (hn : xs.length ≤ 1048576) (h : RdI xs v w) :
    Calls Tryd.prog 9 #[.agg #[v, .int .i64 m]] w fun e w' => (∃ u, e = .returned (.tuple #[u, .bool (chkB xs m)]) ∧ SRw w.heap.size (usgA xs m) u w') ∧ Below w.heap.size w w' := by
  have HV := Lib.hid h
  cases hb : chkB xs m with
  | false =>
    have HZ : Hid (usgA xs m = []) := by show _ = _; unfold usgA; rw [hb]; rfl
    go_enter Tryd.func9, Tryd.ntmps9
    go_wp2_with (go_at_call 33; (with_reducible refine (slGood_any xs m v _ hn (HV.out.below (by go_grown))).mono ?_); rintro e w1 ⟨rfl, b1⟩; rw [hb])
    go_ret2
    exact ⟨⟨_, rfl, by rw [HZ.out]; exact SRw.nil _ _⟩, by first | exact b1 | exact chain (w := w) (by go_grown) b1⟩
  | true =>
    obtain ⟨h2, ho⟩ := (chkB_iff _ _).1 hb
    have HS : Hid (∀ W, RdI xs v W → Calls Tryd.prog 34 #[.agg #[v, .int .i64 m], .bool false] W fun e w' => (∃ u, e = .returned u ∧ SRw W.heap.size (usgA xs m) u w') ∧ Below W.heap.size W w') := fun W hr => by have h9 := slListS_any xs m v W ho h2 hr; have e9 : usgA xs m = rwS xs m xs.length := (by unfold usgA; rw [hb, if_pos rfl]); rw [e9]; exact h9
    clear ho h2
    go_enter Tryd.func9, Tryd.ntmps9
    go_wp2_with (first
      | (go_at_call 33; (with_reducible refine (slGood_any xs m v _ hn (HV.out.below (by go_grown))).mono ?_); rintro e w1 ⟨rfl, b1⟩; rw [hb]; obtain ⟨c0, c1, hz⟩ := box2_kept b1; have B1 := chain (w := w) (by go_grown) b1; have A1 := HV.out.below B1)
      | (go_at_call 34; (with_reducible refine (HS.out _ A1).mono ?_); rintro e w2 ⟨⟨u, rfl, hu⟩, b2⟩))
    go_ret2
    exact ⟨⟨_, rfl, hu.mono B1.size⟩, chain B1 b2⟩
end Go.Proofs.YtdjcgddcgjbboaaDoor
