/-
  Least numbers: slices.Sort of bytes, up to 12 of them.
-/
import Derived.Test.YtghjpanabphbpaaDoorLeByt
import Derived.Test.YtghjpanabphbpaaDoorLeSo
namespace Go.Proofs.YtghjpanabphbpaaDoor
open Go.RowKit
set_option maxRecDepth 100000

theorem nan_any (x : Int) (w : World) :
    Calls Tryd.prog 140 #[.int .u8 x] w fun e w' => e = .returned (.bool false) ∧ w = w' := by
  go_enter Tryd.func140, Tryd.ntmps140
  go_wp2
  go_ret
  exact ⟨by simp, rfl⟩
theorem less_any (x y : Int) (b : Bool) (w : World) (h : decide (x < y) = b) :
    Calls Tryd.prog 118 #[.int .u8 x, .int .u8 y] w fun e w' => e = .returned (.bool b) ∧ w = w' := by
  subst h
  go_enter Tryd.func118, Tryd.ntmps118
  go_wp2_with (go_at_call 140; (with_reducible refine (nan_any _ _).mono ?_); rintro e w' ⟨rfl, rfl⟩)
  go_ret
  exact ⟨rfl, rfl⟩
/-- What a sort of the numbers from a to b leaves. -/
structure Sod (w w' : World) (g n a b : Nat) (f f' : Nat → Int) : Prop where
  row : BYt w' g n f'
  cnt : ∀ c, cw f' n c = cw f n c
  srt : Srt f' a b
  out : ∀ j, j < a ∨ b ≤ j → f' j = f j
  gr : w.grownBy w' (some g)
set_option maxHeartbeats 4000000 in
theorem ins_any (g n c a b : Nat) (f : Nat → Int) (w : World) (hb : b ≤ n) (hab : a ≤ b) (hn : n ≤ 100) (h : BYt w g n f) :
    Calls Tryd.prog 112 #[.slice (some ⟨g, 0, none⟩) n c, .int .i64 a, .int .i64 b] w fun e w' => e = .returned (.tuple #[]) ∧ ∃ f', Sod w w' g n a b f f' := by
  have H0 := Lib.hid h
  clear h
  go_enter Tryd.func112, Tryd.ntmps112
  go_wp2
  go_loopw [6] (fun iv wr => ∃ (i : Nat) (fi : Nat → Int), iv = .int .i64 i ∧ a < i ∧ i ≤ b + 1 ∧ i ≤ 101 ∧ Hid (BYt wr g n fi) ∧ Hid (∀ c, cw fi n c = cw f n c) ∧ Hid (Srt fi a i) ∧ Hid (∀ j, j < a ∨ b ≤ j → fi j = f j) ∧ Hid (w.grownBy wr (some g))) (fun iv _ => 101 - (intOf iv).toNat)
  case atStart => exact ⟨a + 1, f, by go_num, by omega, by omega, by omega, H0.out, fun _ => rfl, fun j h1 h2 => by omega, fun _ _ => rfl, grownB_refl g w⟩
  case round =>
    obtain ⟨i, fi, rfl, hai, hib, hi1, HR, HC, HS, HO, HG⟩ := hrel
    obtain ⟨wo, rfl⟩ : ∃ wo : World, wo = wr := ⟨_, rfl⟩
    by_cases hlt : i < b
    · have hltI : (i : Int) < (b : Int) := by omega
      go_wp2
      go_loopw [7] (fun jv wr => ∃ (j : Nat) (fj : Nat → Int), jv = .int .i64 j ∧ a ≤ j ∧ j ≤ i ∧ Hid (BYt wr g n fj) ∧ Hid (∀ c, cw fj n c = cw f n c) ∧ Hid (Ins fj a i j) ∧ Hid (∀ k, k < a ∨ b ≤ k → fj k = f k) ∧ Hid (w.grownBy wr (some g))) (fun jv _ => (intOf jv).toNat)
      case atStart => exact ⟨i, fi, rfl, by omega, Nat.le_refl _, HR.out, HC.out, Ins.start HS.out (by omega), HO.out, HG.out⟩
      case round =>
        obtain ⟨j, fj, rfl, haj, hji, HR2, HC2, HI2, HO2, HG2⟩ := hrel
        obtain ⟨wo2, rfl⟩ : ∃ wo2 : World, wo2 = wr := ⟨_, rfl⟩
        by_cases hja : a < j
        · obtain ⟨p, rfl⟩ : ∃ p, j = p + 1 := ⟨j - 1, by omega⟩
          have hjaI : (a : Int) < ((p + 1 : Nat) : Int) := by omega
          obtain ⟨q, hq⟩ : ∃ q, p + 1 = q := ⟨_, rfl⟩
          have HQ := Lib.hid hq
          have hqn : q < n := by omega
          have hpn : p < n := by omega
          have c1 := HR2.out.cell q hqn
          have c2 := HR2.out.cell p hpn
          have z1 := HR2.out.fz q hqn
          have z2 := HR2.out.fz p hpn
          rw [hq] at hjaI haj hji HI2 hja ⊢
          have hpq : (q : Int) - 1 = (p : Int) := by omega
          have f1 : IntKind.i64.wrap ((q : Int) - 1) = (p : Int) := by rw [IntWalk.i64_in] <;> omega
          have hqI : (q : Int) < (n : Int) := by omega
          have hpI : (p : Int) < (n : Int) := by omega
          obtain ⟨x, hx⟩ : ∃ x, fj q = x := ⟨_, rfl⟩
          obtain ⟨y, hy⟩ : ∃ y, fj p = y := ⟨_, rfl⟩
          rw [hx] at c1
          rw [hy] at c2
          have HX := Lib.hid hx
          have HY := Lib.hid hy
          clear hx hy hq
          have HOX : Hid (∀ k, k < a ∨ b ≤ k → xch fj q p k = f k) := fun k hk => by
            have := HQ.out
            unfold xch; rw [if_neg (by omega), if_neg (by omega)]; exact HO2.out k hk
          have hab1 : a ≤ p := by have := HQ.out; omega
          by_cases hxy : x < y
          · have HL := Lib.hid (fun W => less_any x y true W (decide_eq_true hxy))
            have HIS : Hid (Ins (xch fj q p) a i p) := by
              show Ins _ _ _ _
              have h1 := HI2.out
              rw [← HQ.out] at h1
              have h2 := Ins.step h1 (by omega) (by rw [HQ.out, HX.out, HY.out]; exact hxy)
              rw [HQ.out] at h2
              exact h2
            go_wp2
            go_quiet ((go_at_call 118; refine (HL.out _).mono ?_; rintro e w' ⟨rfl, rfl⟩; exact ⟨rfl, _, rfl⟩))
            have c1' : (wo2.drewN nq).cell? ⟨g, q, none⟩ = some (.int .u8 x) := c1
            have c2' : (wo2.drewN nq).cell? ⟨g, p, none⟩ = some (.int .u8 y) := c2
            have z1' : (wo2.drewN nq).frozen? ⟨g, q, none⟩ = false := z1
            have z2' : (wo2.drewN nq).frozen? ⟨g, p, none⟩ = false := z2
            have HRn := Lib.hid (HR2.out.drewN nq)
            have HGn := Lib.hid (grownB_drewN HG2.out nq)
            obtain ⟨ws, hws⟩ : ∃ ws, wo2.drewN nq = ws := ⟨_, rfl⟩
            rw [hws] at c1' c2' z1' z2' HRn HGn
            rw [hws]
            clear hws c1 c2 z1 z2 HR2 HG2
            have HS2 : Hid (BYt ((ws.setCell ⟨g, q, none⟩ (.int .u8 y)).setCell ⟨g, p, none⟩ (.int .u8 x)) g n (xch fj q p)) := by
              refine BYt.put (BYt.put (g := fun k => if k = q then y else fj k) HRn.out q y hqn (fun _ _ => rfl)) p x hpn (fun k _ => ?_)
              have := HQ.out
              unfold xch
              by_cases e1 : k = q
              · subst e1; rw [if_pos rfl, if_neg (by omega), if_pos rfl]; exact HY.out
              · rw [if_neg e1]
                by_cases e2 : k = p
                · rw [if_pos e2, if_pos e2]; exact HX.out
                · rw [if_neg e2, if_neg e2, if_neg e1]
            have HC3 : Hid (∀ c, cw (xch fj q p) n c = cw f n c) := fun c => by
              have := HQ.out
              rw [cw_xch hqn hpn (by omega)]; exact HC2.out c
            have hqp : (⟨g, q, none⟩ : Addr) ≠ ⟨g, p, none⟩ := fun h => by have h1 := congrArg Addr.off h; have h2 := HQ.out; simp at h1; omega
            go_wp2
            go_region
            go_wp2
            go_roundw
            case rel => exact ⟨p, xch fj q p, by go_num, hab1, by have := HQ.out; omega, HS2.out.drw, HC3.out, HIS.out, HOX.out, grownB_drw (grownB_set (grownB_set HGn.out _ _) _ _)⟩
            case measure => have := HQ.out; simp [intOf]; omega
          · have HL := Lib.hid (fun W => less_any x y false W (decide_eq_false hxy))
            have HSD : Hid (Srt fj a (i + 1)) := Ins.done HI2.out (.inr (by rw [← HQ.out, Nat.add_sub_cancel, HQ.out, HX.out, HY.out]; omega))
            go_wp2
            go_quiet ((go_at_call 118; refine (HL.out _).mono ?_; rintro e w' ⟨rfl, rfl⟩; exact ⟨rfl, _, rfl⟩))
            go_wp2
            go_roundw
            case rel => exact ⟨i + 1, fj, by go_num, by omega, by omega, by omega, HR2.out.drewN _, HC2.out, HSD.out, HO2.out, grownB_drewN HG2.out _⟩
            case measure => simp [intOf]; omega
        · have hjaF : ((a : Int) < (j : Int)) = False := eq_false (by omega)
          have HSD : Hid (Srt fj a (i + 1)) := Ins.done HI2.out (.inl (by omega))
          go_wp2
          go_quiet (fail)
          go_wp2
          go_roundw
          case rel => exact ⟨i + 1, fj, by go_num, by omega, by omega, by omega, HR2.out.drewN _, HC2.out, HSD.out, HO2.out, grownB_drewN HG2.out _⟩
          case measure => simp [intOf]; omega
    · have hltF : ((i : Int) < (b : Int)) = False := eq_false (by omega)
      go_wp2
      go_end0
      exact ⟨rfl, fi, ⟨HR.out, HC.out, fun k h1 h2 => HS.out k h1 (by omega), HO.out, HG.out⟩⟩
end Go.Proofs.YtghjpanabphbpaaDoor
