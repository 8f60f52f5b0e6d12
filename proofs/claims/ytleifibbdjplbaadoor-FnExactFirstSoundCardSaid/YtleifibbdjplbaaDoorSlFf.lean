/-
  The first sound number: the model's slFill, at the last place and behind it.
-/
import Derived.Test.YtleifibbdjplbaaDoorSlFs
namespace Go.Proofs.YtleifibbdjplbaaDoor
open Go.RowKit

theorem fill0_any (xs : List Int) (m : Int) (s : ByteArray) (v : Value) (w : World) (ho : CkOk xs m) (hl : s.size = xs.length) (hd : digB s.data.toList = true) (h : RdI xs v w) :
    Calls Tryd.prog 43 #[.agg #[v, .int .i64 m], .string s, .int .i64 xs.length] w fun e w' => e = .returned (.tuple #[.string s, .bool (sndB xs m s.data.toList)]) ∧ Below w.heap.size w w' := by
  have HV := Lib.hid h
  obtain ⟨a, cap, rfl, _⟩ := h
  have HS := Lib.hid (fun W hr => slSound_any xs m s _ W ho hl hd hr : ∀ W, RdI xs (.slice a xs.length cap) W → _)
  obtain ⟨n, hnn⟩ : ∃ n, n = xs.length := ⟨_, rfl⟩
  rw [← hnn] at HV HS ⊢
  clear hl hd ho hnn
  go_enter Tryd.func43, Tryd.ntmps43
  go_wp2_with (go_at_call 36; (with_reducible refine (HS.out _ (HV.out.below (by go_grown))).mono ?_); rintro e w1 ⟨rfl, b1⟩)
  go_ret2
  exact ⟨rfl, chain (w := w) (by go_grown) b1⟩
set_option maxHeartbeats 2000000 in
/-- The last place filled: D is the first digit that does, or 10. -/
theorem fill1_any (xs : List Int) (m : Int) (s : ByteArray) (p D : Nat) (v : Value) (w : World) (ho : CkOk xs m) (hl : s.size = xs.length) (hp : p + 1 = xs.length) (hd : digB s.data.toList = true) (h : RdI xs v w)
    (hD : D ≤ 10) (hno : ∀ d, d < D → sndB xs m (putD s.data.toList p d) = false) (hyes : D < 10 → sndB xs m (putD s.data.toList p D) = true) :
    Calls Tryd.prog 43 #[.agg #[v, .int .i64 m], .string s, .int .i64 p] w fun e w' => e = .returned (.tuple #[.string (if D < 10 then putS s p D else ⟨#[]⟩), .bool (decide (D < 10))]) ∧ Below w.heap.size w w' := by
  have HV := Lib.hid h
  obtain ⟨a, cap, rfl, _⟩ := h
  have hs12 : s.size ≤ 12 := by have := ho.len; omega
  have hps : p < s.size := by omega
  have HF : Hid (∀ d W, d ≤ 9 → RdI xs (.slice a xs.length cap) W → Calls Tryd.prog 43 #[.agg #[.slice a xs.length cap, .int .i64 m], .string (putS s p d), .int .i64 xs.length] W fun e w' => e = .returned (.tuple #[.string (putS s p d), .bool (sndB xs m (putD s.data.toList p d))]) ∧ Below W.heap.size W w') := fun d W h9 hr => by
    have := fill0_any xs m (putS s p d) _ W ho (by rw [putS_size s p d hps, hl]) (by rw [putS_list]; exact putD_dig _ _ _ h9 hd) hr
    rw [putS_list] at this
    exact this
  obtain ⟨n, hnn⟩ : ∃ n, n = xs.length := ⟨_, rfl⟩
  rw [← hnn] at HV HF hp
  rw [← hnn]
  have hpn : ((p : Int) == (n : Int)) = false := beq_false_of_ne (by omega)
  have hpn2 : ¬ (p : Int) = (n : Int) := by omega
  have hp1 : (p : Int) + 1 = (n : Int) := by omega
  have hwn : IntKind.i64.wrap (n : Int) = (n : Int) := IntWalk.i64_in _ (by omega)
  have hwr : IntKind.i64.wrap ((p : Int) + 1) = (n : Int) := by rw [hp1]; exact hwn
  have HPS := Lib.hid hps
  have HNO := Lib.hid hno
  have HYES := Lib.hid hyes
  clear hl hd ho hnn hp hps hno hyes
  go_enter Tryd.func43, Tryd.ntmps43
  go_wp2
  obtain ⟨W0, hW⟩ : ∃ W0, W0 = w.alloc (.cells #[.slice a n cap, .int .i64 m] 28) := ⟨_, rfl⟩
  have hWb : Below w.heap.size w W0 := by rw [hW]; exact (Below.refl _ _).alloc (Nat.le_refl _) _
  have c0 : W0.cell? ⟨w.heap.size, 0, none⟩ = some (.slice a n cap) := by rw [hW]; simp
  have c1 : W0.cell? ⟨w.heap.size, 1, none⟩ = some (.int .i64 m) := by rw [hW]; simp
  have hz : w.heap.size < W0.heap.size := by rw [hW, World.size_alloc]; omega
  rw [← hW]
  clear hW
  go_loopw [8] (fun iv wr => ∃ k : Nat, k ≤ D ∧ iv = .int .i64 k ∧ Below W0.heap.size W0 wr) (fun iv _ => 11 - (intOf iv).toNat)
  case atStart => exact ⟨0, Nat.zero_le _, rfl, Below.refl _ _⟩
  case round =>
    obtain ⟨k, hk, rfl, hb⟩ := hrel
    obtain ⟨wo, rfl⟩ : ∃ wo : World, wo = wr := ⟨_, rfl⟩
    by_cases hlt : k < 10
    · obtain ⟨e0, e1, ez⟩ := keep2 hz c0 c1 hb
      have HBo := Lib.hid hb
      have HVo : Hid (RdI xs (.slice a n cap) wo) := HV.out.below (chain hWb hb)
      have hF := fun W hr => HF.out k W (by omega) hr
      by_cases hkD : k < D
      · rw [HNO.out k hkD] at hF
        have HFF := Lib.hid hF
        clear hF
        go_wp2_with fail
        go_region_held3 (fun w' => w'.cell? ⟨w.heap.size, 0, none⟩ = some (.slice a n cap) ∧ w'.cell? ⟨w.heap.size, 1, none⟩ = some (.int .i64 m))
          (first | go_keep | exact ⟨k0, k1⟩ | exact ⟨l0, l1⟩)
          (first
          | (go_at_call 37; (with_reducible refine (slPut_any s p k _ (by omega) HPS.out (by omega)).mono ?_); rintro e w3 ⟨rfl, b3⟩; have B3 : Below wo.heap.size wo w3 := chain (w := wo) (by go_grown) b3; obtain ⟨k0, k1, kz⟩ := keep2 ez e0 e1 B3)
          | (go_at_call 43; (with_reducible refine (HFF.out _ (HVo.out.below B3)).mono ?_); rintro e w4 ⟨rfl, b4⟩; have B4 : Below wo.heap.size wo w4 := chain B3 b4; obtain ⟨l0, l1, lz⟩ := keep2 ez e0 e1 B4))
        all_goals
          go_wp2
          go_roundw
          case rel => exact ⟨k + 1, by omega, by go_num, chain HBo.out B4⟩
          case measure => simp [intOf]; omega
      · have hkk : k = D := by omega
        subst hkk
        rw [HYES.out hlt] at hF
        have HFF := Lib.hid hF
        have HR : Hid (putS s p k = if k < 10 then putS s p k else ⟨#[]⟩) := by show _ = _; rw [if_pos hlt]
        have HR2 : Hid (true = decide (k < 10)) := (decide_eq_true hlt).symm
        clear hF
        go_wp2_with fail
        go_region_held3 (fun w' => w'.cell? ⟨w.heap.size, 0, none⟩ = some (.slice a n cap) ∧ w'.cell? ⟨w.heap.size, 1, none⟩ = some (.int .i64 m))
          (first | go_keep | exact ⟨k0, k1⟩ | exact ⟨l0, l1⟩)
          (first
          | (go_at_call 37; (with_reducible refine (slPut_any s p k _ (by omega) HPS.out (by omega)).mono ?_); rintro e w3 ⟨rfl, b3⟩; have B3 : Below wo.heap.size wo w3 := chain (w := wo) (by go_grown) b3; obtain ⟨k0, k1, kz⟩ := keep2 ez e0 e1 B3)
          | (go_at_call 43; (with_reducible refine (HFF.out _ (HVo.out.below B3)).mono ?_); rintro e w4 ⟨rfl, b4⟩; have B4 : Below wo.heap.size wo w4 := chain B3 b4; obtain ⟨l0, l1, lz⟩ := keep2 ez e0 e1 B4))
        all_goals
          go_wp2
          go_ret2
          exact ⟨by first | rfl | exact ret_sb HR.out HR2.out, chain hWb (chain HBo.out B4)⟩
    · have HR : Hid (⟨#[]⟩ = if D < 10 then putS s p D else ⟨#[]⟩) := by show _ = _; rw [if_neg (by omega)]
      have HR2 : Hid (false = decide (D < 10)) := (decide_eq_false (by omega)).symm
      go_wp2
      go_ret2
      exact ⟨by first | rfl | exact ret_sb HR.out HR2.out, chain hWb hb⟩
end Go.Proofs.YtleifibbdjplbaaDoor
