/-
  The value of signed digits in the model, and how many signs there are.
-/
import Derived.Test.YtpmkdpkegmbleaaDoorSgRk
namespace Go.Proofs.YtpmkdpkegmbleaaDoor
open Go.RowKit

theorem run_idx3 (S P N C : Int) (w : World) : (Instr.index 35 (.agg #[.int .i64 S, .int .i64 P, .int .i64 N, .int .i64 C]) (.int .i64 3)).run Tryd.prog w = .ok (.int .i64 C) w := by kernel_rfl
theorem rk_sign_eq (r : Rk) (c : UInt8) (x : Int) (hx : (c.toNat : Int) = x) (h : x = 42 ∨ x = 43 ∨ x = 45) : rkStep r c = if x = 42 then ⟨r.S, r.P * r.N, 0⟩ else if x = 43 then ⟨r.S + r.P * r.N, 1, 0⟩ else ⟨r.S + r.P * r.N, -1, 0⟩ := by
  subst hx
  unfold rkStep Rk.val
  rcases h with e | e | e <;> simp [e]
/-- The sign that the model keeps apart. -/
def Gs (g : Int) (S p N : Int) (r : Rk) : Prop := r = ⟨S, g * p, N⟩
set_option maxHeartbeats 2000000 in
theorem sval_any (s : ByteArray) (w : World) (hs : s.size ≤ maxLen) (hg : sigB s.data.toList = true) :
    Calls Tryd.prog 9 #[.string s] w fun e w' => e = .returned (.int .i64 (sval s.data.toList)) ∧ w = w' := by
  have hl := sigB_len hg
  have hsl : s.data.toList.length = s.size := by simp
  rw [hsl] at hl
  obtain ⟨hl1, hl2⟩ := hl
  have HG := Lib.hid hg
  clear hg hsl
  unfold maxLen at hs
  go_enter Tryd.func9, Tryd.ntmps9
  go_wp2
  go_loop [3, 4, 5, 6, 7] (fun u g p n i => ∃ (k : Nat) (gi S pi N : Int), k ≤ s.size ∧ i = .int .i64 k ∧ u = .int .i64 S ∧ g = .int .i64 gi ∧ p = .int .i64 pi ∧ n = .int .i64 N ∧ Hid ((gi = 1 ∨ gi = -1) ∧ rk (s.data.toList.take k) = ⟨S, gi * pi, N⟩)) (fun _ _ _ _ i => s.size - (intOf i).toNat)
  case atStart => exact ⟨0, 1, 0, 1, 0, Nat.zero_le _, rfl, rfl, rfl, rfl, rfl, .inl rfl, rfl⟩
  case round =>
    obtain ⟨k, gi, S, p, N, hk, rfl, rfl, rfl, rfl, rfl, HR⟩ := hrel
    have HF : Hid ((Rk.mk S (gi * p) N).Fine) := by show Rk.Fine _; rw [← HR.out.2]; exact fine_take _ _ HG.out
    by_cases hlt : k < s.size
    · have H1 := Lib.hid (rk_take_succ s k hlt)
      by_cases hsg : sgB s[k] = true
      · have HC := Lib.hid ((sgB_iff _).1 hsg)
        clear hsg
        rcases HR.out.1 with rfl | rfl
        · -- sign 1
          have hN1 := HF.out.n0; have hN2 := HF.out.n1; have hS := HF.out.s; have hP := HF.out.p; have hPN := HF.out.pn; have hV := HF.out.v
          simp only [Int.one_mul] at hN1 hN2 hS hP hPN hV
          obtain ⟨hS1, hS2⟩ := hS
          obtain ⟨hP1, hP2⟩ := hP
          obtain ⟨m, hm⟩ : ∃ m, p * N = m := ⟨_, rfl⟩
          rw [hm] at hPN hV
          obtain ⟨hPN1, hPN2⟩ := hPN
          obtain ⟨hV1, hV2⟩ := hV
          have HM := Lib.hid hm
          rcases HC.out with hc | hc | hc
          · have HX := Lib.hid hc
            go_wp2
            go_round
            case rel => exact ⟨k + 1, 1, S, m, 0, by omega, by go_num, rfl, rfl, rfl, rfl, by decide, by rw [H1.out, HR.out.2, rk_sign_eq _ _ 42 HX.out (by decide)]; simp [HM.out]⟩
            case measure => simp [intOf]; omega
          · have HX := Lib.hid hc
            go_wp2
            go_round
            case rel => exact ⟨k + 1, 1, (S + m), 1, 0, by omega, by go_num, rfl, rfl, rfl, rfl, by decide, by rw [H1.out, HR.out.2, rk_sign_eq _ _ 43 HX.out (by decide)]; simp [HM.out]⟩
            case measure => simp [intOf]; omega
          · have HX := Lib.hid hc
            go_wp2
            go_round
            case rel => exact ⟨k + 1, (-1), (S + m), 1, 0, by omega, by go_num, rfl, rfl, rfl, rfl, by decide, by rw [H1.out, HR.out.2, rk_sign_eq _ _ 45 HX.out (by decide)]; simp [HM.out]⟩
            case measure => simp [intOf]; omega
        · -- sign -1
          have hN1 := HF.out.n0; have hN2 := HF.out.n1; have hS := HF.out.s; have hP := HF.out.p; have hPN := HF.out.pn; have hV := HF.out.v
          have he : (-1 : Int) * p = -p := by omega
          simp only [he] at hN1 hN2 hS hP hPN hV
          obtain ⟨hS1, hS2⟩ := hS
          obtain ⟨hP1, hP2⟩ := hP
          obtain ⟨m, hm⟩ : ∃ m, -p * N = m := ⟨_, rfl⟩
          rw [hm] at hPN hV
          obtain ⟨hPN1, hPN2⟩ := hPN
          obtain ⟨hV1, hV2⟩ := hV
          have HM := Lib.hid hm
          have hm2 : p * N = -m := by rw [← hm, Int.neg_mul, Int.neg_neg]
          clear he
          rcases HC.out with hc | hc | hc
          · have HX := Lib.hid hc
            go_wp2
            go_round
            case rel => exact ⟨k + 1, (-1), S, (-m), 0, by omega, by go_num, rfl, rfl, rfl, rfl, by decide, by rw [H1.out, HR.out.2, rk_sign_eq _ _ 42 HX.out (by decide)]; simp [HM.out]; try omega⟩
            case measure => simp [intOf]; omega
          · have HX := Lib.hid hc
            go_wp2
            go_round
            case rel => exact ⟨k + 1, 1, (S + m), 1, 0, by omega, by go_num, rfl, rfl, rfl, rfl, by decide, by rw [H1.out, HR.out.2, rk_sign_eq _ _ 43 HX.out (by decide)]; simp [HM.out]; try omega⟩
            case measure => simp [intOf]; omega
          · have HX := Lib.hid hc
            go_wp2
            go_round
            case rel => exact ⟨k + 1, (-1), (S + m), 1, 0, by omega, by go_num, rfl, rfl, rfl, rfl, by decide, by rw [H1.out, HR.out.2, rk_sign_eq _ _ 45 HX.out (by decide)]; simp [HM.out]; try omega⟩
            case measure => simp [intOf]; omega
      · have hsg' : sgB s[k] = false := by simpa using hsg
        have HD := Lib.hid (sig_digit s k hlt HG.out hsg')
        have hx := (dgB_iff _).1 HD.out
        obtain ⟨hx1, hx2⟩ := hx
        have hb1 : ((s[k].toNat : Int) == 42) = false := by simp; omega
        have hb2 : ((s[k].toNat : Int) == 43) = false := by simp; omega
        have hb3 : ((s[k].toNat : Int) == 45) = false := by simp; omega
        have hN1 := HF.out.n0
        have hN2 := HF.out.n1
        simp only at hN1 hN2
        clear hsg hsg'
        go_wp2
        go_round
        case rel => exact ⟨k + 1, gi, S, p, 10 * N + ((s[k].toNat : Int) - 48), by omega, by go_num, rfl, rfl, rfl, rfl, HR.out.1, by rw [H1.out, HR.out.2, step_digit _ _ HD.out]⟩
        case measure => simp [intOf]; omega
    · have HS : Hid (s.data.toList.take k = s.data.toList) := by show _ = _; rw [show k = s.size by omega, take_all]
      rw [HS.out] at HR
      rcases HR.out.1 with rfl | rfl
      · -- sign 1
        have hN1 := HF.out.n0; have hN2 := HF.out.n1; have hS := HF.out.s; have hP := HF.out.p; have hPN := HF.out.pn; have hV := HF.out.v
        simp only [Int.one_mul] at hN1 hN2 hS hP hPN hV
        obtain ⟨hS1, hS2⟩ := hS
        obtain ⟨hP1, hP2⟩ := hP
        obtain ⟨m, hm⟩ : ∃ m, p * N = m := ⟨_, rfl⟩
        rw [hm] at hPN hV
        obtain ⟨hPN1, hPN2⟩ := hPN
        obtain ⟨hV1, hV2⟩ := hV
        have HM := Lib.hid hm
        go_wp2
        go_ret
        exact ⟨ret_int (by unfold sval Rk.val; rw [HR.out.2]; simp [HM.out]; try omega), rfl⟩
      · -- sign -1
        have hN1 := HF.out.n0; have hN2 := HF.out.n1; have hS := HF.out.s; have hP := HF.out.p; have hPN := HF.out.pn; have hV := HF.out.v
        have he : (-1 : Int) * p = -p := by omega
        simp only [he] at hN1 hN2 hS hP hPN hV
        obtain ⟨hS1, hS2⟩ := hS
        obtain ⟨hP1, hP2⟩ := hP
        obtain ⟨m, hm⟩ : ∃ m, -p * N = m := ⟨_, rfl⟩
        rw [hm] at hPN hV
        obtain ⟨hPN1, hPN2⟩ := hPN
        obtain ⟨hV1, hV2⟩ := hV
        have HM := Lib.hid hm
        have hm2 : p * N = -m := by rw [← hm, Int.neg_mul, Int.neg_neg]
        clear he
        go_wp2
        go_ret
        exact ⟨ret_int (by unfold sval Rk.val; rw [HR.out.2]; simp [HM.out]; try omega), rfl⟩
end Go.Proofs.YtpmkdpkegmbleaaDoor
