/-
  The reckoning of a text.
-/
import Derived.Test.YtpmkdpkegmbleaaDoorSgVal
namespace Go.Proofs.YtpmkdpkegmbleaaDoor
open Go.RowKit

/-- What stands in a block of four numbers. -/
structure Rb (w : World) (b : Nat) (S P N C : Int) : Prop where
  c0 : w.cell? ⟨b, 0, none⟩ = some (.int .i64 S)
  c1 : w.cell? ⟨b, 1, none⟩ = some (.int .i64 P)
  c2 : w.cell? ⟨b, 2, none⟩ = some (.int .i64 N)
  c3 : w.cell? ⟨b, 3, none⟩ = some (.int .i64 C)
  f0 : w.frozen? ⟨b, 0, none⟩ = false
  f1 : w.frozen? ⟨b, 1, none⟩ = false
  f2 : w.frozen? ⟨b, 2, none⟩ = false
  f3 : w.frozen? ⟨b, 3, none⟩ = false
theorem Rb.below {w w' : World} {b : Nat} {S P N C : Int} (h : Rb w b S P N C) (k : Below w.heap.size w w') (hb : b < w.heap.size) : Rb w' b S P N C :=
  ⟨(k.cell hb).trans h.c0, (k.cell hb).trans h.c1, (k.cell hb).trans h.c2, (k.cell hb).trans h.c3, (k.frozen hb).trans h.f0, (k.frozen hb).trans h.f1, (k.frozen hb).trans h.f2, (k.frozen hb).trans h.f3⟩
theorem Rb.set4 {w : World} {b : Nat} {S P N C : Int} (h : Rb w b S P N C) (S' P' N' C' : Int) : Rb ((((w.setCell ⟨b, 0, none⟩ (.int .i64 S')).setCell ⟨b, 1, none⟩ (.int .i64 P')).setCell ⟨b, 2, none⟩ (.int .i64 N')).setCell ⟨b, 3, none⟩ (.int .i64 C')) b S' P' N' C' := by
  obtain ⟨h0, h1, h2, h3, h4, h5, h6, h7⟩ := h
  constructor <;> first | (simp only [World.frozen?_setCell]; assumption) | (simp [go_sem, *]; done) | (simp only [World.frozen?_setCell]; assumption)
theorem Rb.set4_other {w : World} {a b : Nat} {S P N C : Int} (h : Rb w a S P N C) (hab : a ≠ b) (x0 x1 x2 x3 : Value) : Rb ((((w.setCell ⟨b, 0, none⟩ x0).setCell ⟨b, 1, none⟩ x1).setCell ⟨b, 2, none⟩ x2).setCell ⟨b, 3, none⟩ x3) a S P N C := by
  obtain ⟨h0, h1, h2, h3, h4, h5, h6, h7⟩ := h
  constructor <;> first | (simp only [World.frozen?_setCell]; assumption) | (simp [go_sem, *]; done) | (simp only [World.frozen?_setCell]; assumption)
/-- What the sign that stands open makes of a state. -/
def ap (z : Int) (r : Rk) : Rk := if z = 42 then ⟨r.S, r.P * r.N, 0⟩ else if z = 43 then ⟨r.S + r.P * r.N, 1, 0⟩ else if z = 45 then ⟨r.S + r.P * r.N, -1, 0⟩ else r
theorem ap_sign (r : Rk) (c : UInt8) (h : sgB c = true) : ap (c.toNat : Int) r = rkStep r c := by
  have := (sgB_iff c).1 h
  unfold ap rkStep Rk.val
  rcases this with e | e | e <;> simp [e]
theorem step_digit (r : Rk) (c : UInt8) (h : dgB c = true) : rkStep r c = ⟨r.S, r.P, 10 * r.N + ((c.toNat : Int) - 48)⟩ := by
  have h := (dgB_iff c).1 h
  unfold rkStep; rw [if_neg (by omega), if_neg (by omega), if_neg (by omega)]; rfl
theorem rk_take_succ (s : ByteArray) (k : Nat) (h : k < s.size) : rk (s.data.toList.take (k + 1)) = rkStep (rk (s.data.toList.take k)) s[k] := by rw [take_snoc s k h, rk_snoc]
theorem nSg_take_succ (s : ByteArray) (k : Nat) (h : k < s.size) : nSg (s.data.toList.take (k + 1)) = nSg (s.data.toList.take k) + (if sgB s[k] then 1 else 0) := by rw [take_snoc s k h, nSg_snoc]
theorem fine_take (l : List UInt8) (k : Nat) (h : sigB l = true) : (rk (l.take k)).Fine := by
  obtain ⟨b, hb⟩ := okSt_take l k h
  exact rk_fine _ b hb (Nat.le_trans (nDig_take l k) (sigB_okSt h).2)
/-- Whether it is known what the open sign is. -/
def Pnd (l : List UInt8) (z S P N C : Int) : Prop := (z = 32 ∨ ((z = 42 ∨ z = 43 ∨ z = 45) ∧ okSt l = some false)) ∧ ap z ⟨S, P, N⟩ = rk l ∧ C + (if z = 32 then 0 else 1) = (nSg l : Int) ∧ (Rk.mk S P N).Fine ∧ 0 ≤ C ∧ C ≤ (l.length : Int)
theorem pnd_start : Pnd [] 32 0 1 0 0 := ⟨.inl rfl, rfl, rfl, ⟨by decide, by decide, by decide, by decide, by decide, by decide⟩, by decide, by decide⟩
theorem sig_sign (s : ByteArray) (k : Nat) (h : k < s.size) (hg : sigB s.data.toList = true) (hs : sgB s[k] = true) : okSt (s.data.toList.take k) = some true ∧ okSt (s.data.toList.take (k + 1)) = some false := by
  obtain ⟨b, hb⟩ := okSt_take s.data.toList (k + 1) hg
  have e := okSt_take_succ s k h
  rw [hb] at e
  cases h2 : okSt (s.data.toList.take k) with
  | none => rw [h2] at e; simp [okStep] at e
  | some q =>
    rw [h2] at e
    cases q <;> simp [okStep, sg_not_dg hs, hs] at e
    exact ⟨rfl, by rw [hb, e]⟩
theorem sig_digit (s : ByteArray) (k : Nat) (h : k < s.size) (hg : sigB s.data.toList = true) (hs : sgB s[k] = false) : dgB s[k] = true := by
  obtain ⟨b, hb⟩ := okSt_take s.data.toList (k + 1) hg
  have e := okSt_take_succ s k h
  rw [hb] at e
  cases h2 : okSt (s.data.toList.take k) with
  | none => rw [h2] at e; simp [okStep] at e
  | some q =>
    rw [h2] at e
    cases hd : dgB s[k] with
    | true => rfl
    | false => simp [okStep, hd, hs] at e
theorem pnd_sign (s : ByteArray) (k : Nat) (h : k < s.size) (hg : sigB s.data.toList = true) (hs : sgB s[k] = true) {z S P N C : Int} (hp : Pnd (s.data.toList.take k) z S P N C) : Pnd (s.data.toList.take (k + 1)) (s[k].toNat : Int) S P N C := by
  obtain ⟨h1, h2, h3, h4, h5, h6⟩ := hp
  obtain ⟨g1, g2⟩ := sig_sign s k h hg hs
  have hz : z = 32 := by
    rcases h1 with h1 | ⟨_, h1⟩
    · exact h1
    · rw [g1] at h1; cases h1
  subst hz
  have hc := (sgB_iff _).1 hs
  refine ⟨.inr ⟨hc, g2⟩, ?_, ?_, h4, h5, ?_⟩
  · rw [ap_sign _ _ hs, rk_take_succ s k h, ← h2]; rfl
  · rw [nSg_take_succ s k h, hs, if_neg (by omega)]
    simp at h3 ⊢; omega
  · rw [List.length_take] at h6 ⊢; omega
theorem pnd_digit (s : ByteArray) (k : Nat) (h : k < s.size) (hg : sigB s.data.toList = true) (hs : sgB s[k] = false) {z S P N C : Int} (hp : Pnd (s.data.toList.take k) z S P N C) :
    Pnd (s.data.toList.take (k + 1)) 32 (ap z ⟨S, P, N⟩).S (ap z ⟨S, P, N⟩).P (10 * (ap z ⟨S, P, N⟩).N + ((s[k].toNat : Int) - 48)) (C + (if z = 32 then 0 else 1)) := by
  obtain ⟨h1, h2, h3, h4, h5, h6⟩ := hp
  have hd := sig_digit s k h hg hs
  have e : (Rk.mk (ap z ⟨S, P, N⟩).S (ap z ⟨S, P, N⟩).P (10 * (ap z ⟨S, P, N⟩).N + ((s[k].toNat : Int) - 48))) = rk (s.data.toList.take (k + 1)) := by
    rw [rk_take_succ s k h, ← h2, step_digit _ _ hd]
  have hn := nSg_le (s.data.toList.take k)
  refine ⟨.inl rfl, ?_, ?_, ?_, ?_, ?_⟩
  · rw [e]; rfl
  · rw [nSg_take_succ s k h, hs, h3]; simp
  · rw [e]; exact fine_take _ _ hg
  · rw [h3]; omega
  · rw [h3]; rw [List.length_take] at hn ⊢; omega
set_option maxHeartbeats 2000000 in
theorem rkOf_any (s : ByteArray) (w : World) (hs : s.size ≤ maxLen) (hg : sigB s.data.toList = true) :
    Calls Tryd.prog 17 #[.string s] w fun e w' => e = .returned (.agg #[.int .i64 (rk s.data.toList).S, .int .i64 (rk s.data.toList).P, .int .i64 (rk s.data.toList).N, .int .i64 (nSg s.data.toList)]) ∧ Below w.heap.size w w' := by
  have hl := sigB_len hg
  have hsl : s.data.toList.length = s.size := by simp
  rw [hsl] at hl
  obtain ⟨hl1, hl2⟩ := hl
  have HG := Lib.hid hg
  have HSL := Lib.hid hsl
  clear hg hsl
  unfold maxLen at hs
  have mixed : Tryd.prog.follows .mixedOrders = true := by kernel_rfl
  go_enter Tryd.func17, Tryd.ntmps17
  go_wp2
  go_loopw [4, 9] (fun z i wr => ∃ (k : Nat) (zi S P N C : Int), k ≤ s.size ∧ i = .int .i64 k ∧ z = .int .u8 zi ∧ Rb wr w.heap.size 0 0 0 0 ∧ Rb wr (w.heap.size + 1) S P N C ∧ Below w.heap.size w wr ∧ w.heap.size + 1 < wr.heap.size ∧ Hid (Pnd (s.data.toList.take k) zi S P N C)) (fun _ i _ => s.size - (intOf i).toNat)
  case atStart => exact ⟨0, 32, 0, 1, 0, 0, Nat.zero_le _, rfl, rfl, ⟨by simp, by simp, by simp, by simp, by simp, by simp, by simp, by simp⟩, ⟨by simp, by simp, by simp, by simp, by simp, by simp, by simp, by simp⟩, by go_grown, by simp, by show Pnd _ _ _ _ _ _; rw [List.take_zero]; exact pnd_start⟩
  case round =>
    obtain ⟨k, zi, S, P, N, C, hk, rfl, rfl, R0, R1, hbl, hsz, HP⟩ := hrel
    by_cases hlt : k < s.size
    · by_cases hsg : sgB s[k] = true
      · have HS := Lib.hid hsg
        clear hsg
        have HN : Hid (Pnd (s.data.toList.take (k + 1)) (s[k].toNat : Int) S P N C) := pnd_sign s k hlt HG.out HS.out HP.out
        go_wp2_with (first | (go_at_call 26; go_must ((with_reducible refine (isSign_b _ true _ HS.out).mono ?_); rintro e w' ⟨rfl, rfl⟩)))
        go_roundw
        case rel => exact ⟨k + 1, _, S, P, N, C, by omega, by go_num, rfl, R0, R1, hbl, hsz, HN⟩
        case measure => simp [intOf]; omega
      · have hsg' : sgB s[k] = false := by simpa using hsg
        have HS := Lib.hid hsg'
        clear hsg hsg'
        have HN := Lib.hid (pnd_digit s k hlt HG.out HS.out HP.out)
        have HX : Hid (48 ≤ (s[k].toNat : Int) ∧ (s[k].toNat : Int) ≤ 57) := (dgB_iff _).1 (sig_digit s k hlt HG.out HS.out)
        have HB : Hid ((-100000000 ≤ P * N ∧ P * N ≤ 100000000) ∧ (-100000000 ≤ S ∧ S ≤ 100000000) ∧ (-100000000 ≤ P ∧ P ≤ 100000000) ∧ (-100000000 ≤ N ∧ N ≤ 100000000) ∧ (0 ≤ C ∧ C ≤ 1000)) := by
          obtain ⟨_, _, _, h4, h5, h6⟩ := HP.out
          rw [List.length_take] at h6
          have a1 := h4.n0; have a2 := h4.n1; have a3 := h4.s; have a4 := h4.p; have a5 := h4.pn
          simp only at a1 a2 a3 a4 a5
          exact ⟨⟨by omega, by omega⟩, ⟨by omega, by omega⟩, ⟨by omega, by omega⟩, ⟨by omega, by omega⟩, ⟨by omega, by omega⟩⟩
        have HZ : Hid (zi = 32 ∨ zi = 42 ∨ zi = 43 ∨ zi = 45) := by
          rcases HP.out.1 with h | ⟨h, _⟩
          · exact .inl h
          · exact .inr h
        have hc0 := R1.c0
        have hc1 := R1.c1
        have hc2 := R1.c2
        have hc3 := R1.c3
        have hne : w.heap.size ≠ w.heap.size + 1 := by omega
        clear HP
        rcases HZ.out with rfl | rfl | rfl | rfl
        · have HN2 : Hid (Pnd (s.data.toList.take (k + 1)) 32 S P (10 * N + ((s[k].toNat : Int) - 48)) C) := by
            have := HN.out; show Pnd _ _ _ _ _ _; simpa [ap] using this
          clear HN
          go_wp2_with (first | (go_at_call 26; go_must ((with_reducible refine (isSign_b _ false _ HS.out).mono ?_); rintro e w' ⟨rfl, rfl⟩)))
          go_region_with (go_at_call 18; go_must ((with_reducible refine (beh_none S P N C (P * N) _ _ rfl HB.out.1 HB.out.2.1 HB.out.2.2.1 HB.out.2.2.2.1 HB.out.2.2.2.2 HX.out).mono ?_); rintro e w1 ⟨rfl, hb1⟩; have H1 : Below wr.heap.size wr w1 := chain (w := wr) (by go_grown) hb1; have R2 := R1.below H1 hsz; have Q2 := R0.below H1 (by omega); have hd0 := R2.c0; have hd1 := R2.c1; have hd2 := R2.c2; have hd3 := R2.c3; have hf0 := R2.f0; have hf1 := R2.f1; have hf2 := R2.f2; have hf3 := R2.f3))
          all_goals
            have hz := H1.size
            have HR := Lib.hid (R2.set4 S P (10 * N + ((s[k].toNat : Int) - 48)) C)
            have HQ := Lib.hid (Q2.set4_other hne (.int .i64 S) (.int .i64 P) (.int .i64 (10 * N + ((s[k].toNat : Int) - 48))) (.int .i64 C))
            clear hd0 hd1 hd2 hd3 hf0 hf1 hf2 hf3 hc0 hc1 hc2 hc3 R2 Q2 R1 R0
            go_wp2
            go_roundw
            case rel => exact ⟨k + 1, 32, _, _, _, _, by omega, by go_num, rfl, HQ.out, HR.out, ((((hbl.trans (H1.mono (by omega))).setCell (by simp) _).setCell (by simp) _).setCell (by simp) _).setCell (by simp) _, by simp [World.setCell]; omega, HN2⟩
            case measure => simp [intOf]; omega
        · have HN2 : Hid (Pnd (s.data.toList.take (k + 1)) 32 S (P * N) ((s[k].toNat : Int) - 48) (C + 1)) := by
            have := HN.out; show Pnd _ _ _ _ _ _; simpa [ap] using this
          clear HN
          go_wp2_with (first | (go_at_call 26; go_must ((with_reducible refine (isSign_b _ false _ HS.out).mono ?_); rintro e w' ⟨rfl, rfl⟩)))
          go_region_with (go_at_call 18; go_must ((with_reducible refine (beh_times S P N C (P * N) _ _ rfl HB.out.1 HB.out.2.1 HB.out.2.2.1 HB.out.2.2.2.1 HB.out.2.2.2.2 HX.out).mono ?_); rintro e w1 ⟨rfl, hb1⟩; have H1 : Below wr.heap.size wr w1 := chain (w := wr) (by go_grown) hb1; have R2 := R1.below H1 hsz; have Q2 := R0.below H1 (by omega); have hd0 := R2.c0; have hd1 := R2.c1; have hd2 := R2.c2; have hd3 := R2.c3; have hf0 := R2.f0; have hf1 := R2.f1; have hf2 := R2.f2; have hf3 := R2.f3))
          all_goals
            have hz := H1.size
            have HR := Lib.hid (R2.set4 S (P * N) ((s[k].toNat : Int) - 48) (C + 1))
            have HQ := Lib.hid (Q2.set4_other hne (.int .i64 S) (.int .i64 (P * N)) (.int .i64 ((s[k].toNat : Int) - 48)) (.int .i64 (C + 1)))
            clear hd0 hd1 hd2 hd3 hf0 hf1 hf2 hf3 hc0 hc1 hc2 hc3 R2 Q2 R1 R0
            go_wp2
            go_roundw
            case rel => exact ⟨k + 1, 32, _, _, _, _, by omega, by go_num, rfl, HQ.out, HR.out, ((((hbl.trans (H1.mono (by omega))).setCell (by simp) _).setCell (by simp) _).setCell (by simp) _).setCell (by simp) _, by simp [World.setCell]; omega, HN2⟩
            case measure => simp [intOf]; omega
        · have HN2 : Hid (Pnd (s.data.toList.take (k + 1)) 32 (S + P * N) 1 ((s[k].toNat : Int) - 48) (C + 1)) := by
            have := HN.out; show Pnd _ _ _ _ _ _; simpa [ap] using this
          clear HN
          go_wp2_with (first | (go_at_call 26; go_must ((with_reducible refine (isSign_b _ false _ HS.out).mono ?_); rintro e w' ⟨rfl, rfl⟩)))
          go_region_with (go_at_call 18; go_must ((with_reducible refine (beh_plus S P N C (P * N) _ _ rfl HB.out.1 HB.out.2.1 HB.out.2.2.1 HB.out.2.2.2.1 HB.out.2.2.2.2 HX.out).mono ?_); rintro e w1 ⟨rfl, hb1⟩; have H1 : Below wr.heap.size wr w1 := chain (w := wr) (by go_grown) hb1; have R2 := R1.below H1 hsz; have Q2 := R0.below H1 (by omega); have hd0 := R2.c0; have hd1 := R2.c1; have hd2 := R2.c2; have hd3 := R2.c3; have hf0 := R2.f0; have hf1 := R2.f1; have hf2 := R2.f2; have hf3 := R2.f3))
          all_goals
            have hz := H1.size
            have HR := Lib.hid (R2.set4 (S + P * N) 1 ((s[k].toNat : Int) - 48) (C + 1))
            have HQ := Lib.hid (Q2.set4_other hne (.int .i64 (S + P * N)) (.int .i64 1) (.int .i64 ((s[k].toNat : Int) - 48)) (.int .i64 (C + 1)))
            clear hd0 hd1 hd2 hd3 hf0 hf1 hf2 hf3 hc0 hc1 hc2 hc3 R2 Q2 R1 R0
            go_wp2
            go_roundw
            case rel => exact ⟨k + 1, 32, _, _, _, _, by omega, by go_num, rfl, HQ.out, HR.out, ((((hbl.trans (H1.mono (by omega))).setCell (by simp) _).setCell (by simp) _).setCell (by simp) _).setCell (by simp) _, by simp [World.setCell]; omega, HN2⟩
            case measure => simp [intOf]; omega
        · have HN2 : Hid (Pnd (s.data.toList.take (k + 1)) 32 (S + P * N) (-1) ((s[k].toNat : Int) - 48) (C + 1)) := by
            have := HN.out; show Pnd _ _ _ _ _ _; simpa [ap] using this
          clear HN
          go_wp2_with (first | (go_at_call 26; go_must ((with_reducible refine (isSign_b _ false _ HS.out).mono ?_); rintro e w' ⟨rfl, rfl⟩)))
          go_region_with (go_at_call 18; go_must ((with_reducible refine (beh_minus S P N C (P * N) _ _ rfl HB.out.1 HB.out.2.1 HB.out.2.2.1 HB.out.2.2.2.1 HB.out.2.2.2.2 HX.out).mono ?_); rintro e w1 ⟨rfl, hb1⟩; have H1 : Below wr.heap.size wr w1 := chain (w := wr) (by go_grown) hb1; have R2 := R1.below H1 hsz; have Q2 := R0.below H1 (by omega); have hd0 := R2.c0; have hd1 := R2.c1; have hd2 := R2.c2; have hd3 := R2.c3; have hf0 := R2.f0; have hf1 := R2.f1; have hf2 := R2.f2; have hf3 := R2.f3))
          all_goals
            have hz := H1.size
            have HR := Lib.hid (R2.set4 (S + P * N) (-1) ((s[k].toNat : Int) - 48) (C + 1))
            have HQ := Lib.hid (Q2.set4_other hne (.int .i64 (S + P * N)) (.int .i64 (-1)) (.int .i64 ((s[k].toNat : Int) - 48)) (.int .i64 (C + 1)))
            clear hd0 hd1 hd2 hd3 hf0 hf1 hf2 hf3 hc0 hc1 hc2 hc3 R2 Q2 R1 R0
            go_wp2
            go_roundw
            case rel => exact ⟨k + 1, 32, _, _, _, _, by omega, by go_num, rfl, HQ.out, HR.out, ((((hbl.trans (H1.mono (by omega))).setCell (by simp) _).setCell (by simp) _).setCell (by simp) _).setCell (by simp) _, by simp [World.setCell]; omega, HN2⟩
            case measure => simp [intOf]; omega
    · have HS : Hid (s.data.toList.take k = s.data.toList) := by show _ = _; rw [show k = s.size by omega, take_all]
      have HE : Hid (S = (rk s.data.toList).S ∧ P = (rk s.data.toList).P ∧ N = (rk s.data.toList).N ∧ C = (nSg s.data.toList : Int)) := by
        have hp := HP.out
        rw [HS.out] at hp
        obtain ⟨h1, h2, h3, _⟩ := hp
        have hz : zi = 32 := by
          rcases h1 with h1 | ⟨_, h1⟩
          · exact h1
          · rw [(sigB_okSt HG.out).1] at h1; cases h1
        subst hz
        rw [← h2]
        exact ⟨rfl, rfl, rfl, by simpa using h3⟩
      have hc0 := R1.c0
      have hc1 := R1.c1
      have hc2 := R1.c2
      have hc3 := R1.c3
      have hd0 := R0.c0
      have hd1 := R0.c1
      have hd2 := R0.c2
      have hd3 := R0.c3
      have hf0 := R0.f0
      have hf1 := R0.f1
      have hf2 := R0.f2
      have hf3 := R0.f3
      go_wp2
      refine bodyPost_ret (v := .agg #[.int .i64 S, .int .i64 P, .int .i64 N, .int .i64 C]) (by simp [results, Tryd.results17, go_sem, hd0, hd1, hd2, hd3]) rfl ⟨?_, ?_⟩
      · rw [HE.out.1, HE.out.2.1, HE.out.2.2.1, HE.out.2.2.2]
      · exact (((hbl.setCell (by simp) _).setCell (by simp) _).setCell (by simp) _).setCell (by simp) _
end Go.Proofs.YtpmkdpkegmbleaaDoor
