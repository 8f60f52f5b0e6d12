/-
  Slices of slices of numbers: whether two are alike.
-/
import Derived.Test.YtdjcgddcgjbboaaDoorSlRwsB
namespace Go.Proofs.YtdjcgddcgjbboaaDoor
open Go.RowKit

theorem eqI_row (xs : List Int) (p q : Rw) (w : World) (hp : p.2 = xs) (hq : q.2 = xs) (hl : xs.length ≤ 1000) (h1 : Blk w p.1 (ivs p.2) 3) (h2 : Blk w q.1 (ivs q.2) 3) :
    Calls Tryd.prog 24 #[.slice (some ⟨p.1, 0, none⟩) p.2.length p.2.length, .slice (some ⟨q.1, 0, none⟩) q.2.length q.2.length] w fun e w' => e = .returned (.bool true) ∧ ∃ n, w' = w.drewN n := by
  have i1 := ints_of_blk h1 (by rw [hp]; exact hl)
  have i2 := ints_of_blk h2 (by rw [hq]; exact hl)
  rw [hp] at i1
  rw [hq] at i2
  exact eqInts_yes _ _ xs _ _ w (by omega) i1 i2
set_option maxHeartbeats 800000 in
theorem eqSS_any (B C : Nat) (ps qs : List Rw) (v u : Value) (w : World) (hn : ps.length ≤ 1000000) (hw : ∀ i (hi : i < ps.length), ps[i].2.length ≤ 1000) (he : ps.map Prod.snd = qs.map Prod.snd) (h1 : RwsOf B ps v w) (h2 : RwsOf C qs u w) :
    Calls Tryd.prog 12 #[v, u] w fun e w' => e = .returned (.bool true) ∧ ∃ n, w' = w.drewN n := by
  have hl : qs.length = ps.length := by have := congrArg List.length he; simpa using this.symm
  obtain ⟨n, hnn⟩ : ∃ n, n = ps.length := ⟨_, rfl⟩
  have HL := Lib.hid hl
  have HN := Lib.hid hnn
  have HE := Lib.hid he
  have HW := Lib.hid hw
  have H1 := Lib.hid h1
  have H2 := Lib.hid h2
  clear he hw
  rcases h1.form with ⟨ao, cap, rfl, h0⟩ | ⟨g, cap, rfl, _, _, hc⟩
  · rcases h2.form with ⟨ao2, cap2, rfl, _⟩ | ⟨g2, cap2, rfl, _, _, _⟩
    all_goals
      rw [hl, h0]
      clear h1 h2 hn hnn
      go_enter Tryd.func12, Tryd.ntmps12
      go_wp2
      go_loopw [5] (fun i wr => i = .int .i64 0 ∧ ∃ q, wr = w.drewN q) (fun _ _ => 0)
      case atStart => exact ⟨rfl, 0, rfl⟩
      case round =>
        obtain ⟨rfl, q, rfl⟩ := hrel
        go_wp2
        go_ret
        exact ⟨rfl, q, rfl⟩
  · rcases h2.form with ⟨ao2, cap2, rfl, h0⟩ | ⟨g2, cap2, rfl, _, _, hc2⟩
    · have h0' : ps.length = 0 := by omega
      rw [h0, h0']
      clear h1 h2 hn hnn hc
      go_enter Tryd.func12, Tryd.ntmps12
      go_wp2
      go_loopw [5] (fun i wr => i = .int .i64 0 ∧ ∃ q, wr = w.drewN q) (fun _ _ => 0)
      case atStart => exact ⟨rfl, 0, rfl⟩
      case round =>
        obtain ⟨rfl, q, rfl⟩ := hrel
        go_wp2
        go_ret
        exact ⟨rfl, q, rfl⟩
    · have HC := Lib.hid hc
      have HC2 := Lib.hid hc2
      rw [hl, ← hnn]
      rw [← hnn] at hn
      clear h1 h2 hnn hc hc2 hl
      go_enter Tryd.func12, Tryd.ntmps12
      go_wp2
      go_loopw [5] (fun i wr => ∃ k q : Nat, k ≤ n ∧ i = .int .i64 k ∧ wr = w.drewN q) (fun i _ => n - (intOf i).toNat)
      case atStart => exact ⟨0, 0, Nat.zero_le _, rfl, rfl⟩
      case round =>
        obtain ⟨k, q, hk, rfl, rfl⟩ := hrel
        by_cases hlt : k < n
        · have hkp : k < ps.length := by rw [← HN.out]; exact hlt
          have hkq : k < qs.length := by rw [HL.out]; exact hkp
          obtain ⟨p, hp⟩ : ∃ p, p = ps[k] := ⟨_, rfl⟩
          obtain ⟨r, hr⟩ : ∃ r, r = qs[k] := ⟨_, rfl⟩
          have HPR : Hid (p.2 = r.2) := by
            show _ = _
            have h := congrArg (fun l => l[k]?) HE.out
            simp [List.getElem?_map, List.getElem?_eq_getElem hkp, List.getElem?_eq_getElem hkq] at h
            rw [hp, hr]; exact h
          have HPL : Hid (r.2.length ≤ 1000) := by show _ ≤ _; rw [← HPR.out, hp]; exact HW.out k hkp
          have d1 : w.cell? ⟨g, k, none⟩ = some (.slice (some ⟨p.1, 0, none⟩) p.2.length p.2.length) := by rw [HC.out k hkp, ← hp]; rfl
          have d2 : w.cell? ⟨g2, k, none⟩ = some (.slice (some ⟨r.1, 0, none⟩) r.2.length r.2.length) := by rw [HC2.out k hkq, ← hr]; rfl
          have HB1 : Hid (Blk w p.1 (ivs p.2) 3) := by rw [hp]; exact H1.out.blk k hkp
          have HB2 : Hid (Blk w r.1 (ivs r.2) 3) := by rw [hr]; exact H2.out.blk k hkq
          have hk0 : (0 : Int) ≤ (k : Int) := by omega
          have hk1 : (k : Int) < (n : Int) := by omega
          clear hp hr hkp hkq
          go_wp2
          go_quiet (first | (go_at_call 24; refine (eqI_row r.2 p r _ HPR.out rfl HPL.out (Blk.drewN HB1.out _) (Blk.drewN HB2.out _)).mono ?_; rintro e w' ⟨rfl, m, rfl⟩; exact ⟨rfl, _, by rw [World.drewN_drewN, Nat.add_assoc]⟩))
          go_wp2
          go_roundw
          case rel => exact ⟨k + 1, q + nq, by omega, by go_num, rfl⟩
          case measure => simp [intOf]; omega
        · go_wp2
          go_ret
          exact ⟨rfl, q, rfl⟩
end Go.Proofs.YtdjcgddcgjbboaaDoor
