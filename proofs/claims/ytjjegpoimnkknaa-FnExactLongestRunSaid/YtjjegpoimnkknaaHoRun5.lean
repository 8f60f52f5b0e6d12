/-
  The law of LongestRun.
-/
import Derived.Test.YtjjegpoimnkknaaHoRun4
namespace Go.Proofs.Ytjjegpoimnkknaa
open Go.RowKit

/-- The first pair, if there is one. -/
def hdX (xs : List (Int × Int)) : Int := match xs with | [] => 0 | p :: _ => p.1
def hdY (xs : List (Int × Int)) : Int := match xs with | [] => 0 | p :: _ => p.2
def hdB (xs : List (Int × Int)) : Bool := match xs with | [] => false | _ :: _ => true
set_option maxHeartbeats 1000000 in
theorem sLo_any (s : Int) (w : World) :
    Calls Try.prog 34 #[.int .i64 s] w fun e w' => e = .returned (.tuple #[.int .i64 (hdX (ansR s 1)), .int .i64 (hdY (ansR s 1)), .bool (hdB (ansR s 1))]) ∧ Below w.heap.size w w' := by
  cases h : houB s with
  | true =>
    have HH := Lib.hid h
    go_enter Try.func34, Try.ntmps34
    go_wp2_with (go_at_call 59; refine (hoAsked_any _ _).mono ?_; rintro e w' ⟨rfl, rfl⟩)
    refine (sRuns_any s 1 _ HH.out (by decide)).mono ?_
    rintro e w1 ⟨⟨v, rfl, hr⟩, b1⟩
    cases hx : ansR s 1 with
    | nil =>
      rw [hx] at hr
      have HX := Lib.hid hx
      obtain ⟨ao, cap, hv⟩ := hr.len
      have hv' : v = .slice ao 0 cap := hv
      subst hv'
      clear hr hx
      go_wp2
      go_ret3
      exact ⟨by rw [HX.out]; rfl, b1⟩
    | cons p xs =>
      rw [hx] at hr
      obtain ⟨x, y⟩ := p
      have HX := Lib.hid hx
      obtain ⟨ps, hps, hr⟩ := hr
      have hpl : ps.length = xs.length + 1 := by
        have := congrArg List.length hps
        rw [List.length_map, prR_len] at this; simpa using this
      have h0 : 0 < ps.length := by omega
      have e2 : ps[0].2 = [x, y] := by
        have h := congrArg (fun l => l[0]?) hps
        simpa [prR, List.getElem?_map, List.getElem?_eq_getElem h0] using h
      rcases hr.form with ⟨ao, cap, hv, hz⟩ | ⟨g, cap, hv, _, hg, hc⟩
      · omega
      have hv' : v = .slice (some ⟨g, 0, none⟩) (xs.length + 1) cap := by rw [hv, hpl]
      subst hv'
      have hb := hr.blk 0 h0
      rw [e2] at hb
      have c0 := hc 0 h0
      unfold rowV at c0
      rw [e2] at c0
      have d0 := hb.cell 0
      have d1 := hb.cell 1
      generalize ps[0].1 = q at c0 d0 d1
      simp [ivs] at d0 d1
      simp at c0
      have hne : (((xs.length : Int) + 1) == 0) = false := by simp; omega
      have hne2 : ((xs.length : Int) + 1) ≠ 0 := by omega
      have hnl : (0 : Int) < (xs.length : Int) + 1 := by omega
      clear hr hx hps hpl hb hc hv e2
      go_wp2
      go_quiet (fail)
      go_wp2
      go_ret3
      exact ⟨by rw [HX.out]; rfl, below_drewN b1 _⟩
  | false =>
    have HX : Hid (ansR s 1 = []) := ansR_no h
    go_enter Try.func34, Try.ntmps34
    go_wp2_with (go_at_call 59; refine (hoAsked_any _ _).mono ?_; rintro e w' ⟨rfl, rfl⟩)
    go_ret3
    exact ⟨by rw [HX.out]; rfl, Below.refl _ _⟩
set_option maxHeartbeats 1000000 in
theorem iLo_any (s : Int) (w : World) :
    Calls Try.prog 35 #[.int .i64 s] w fun e w' => e = .returned (.tuple #[.int .i64 (hdX (ansR s 1)), .int .i64 (hdY (ansR s 1)), .bool (hdB (ansR s 1))]) ∧ Below w.heap.size w w' := by
  cases h : houB s with
  | true =>
    have HS := Lib.hid h
    obtain ⟨h1, h2⟩ := (houB_iff s).1 h
    go_enter Try.func35, Try.ntmps35
    go_wp2_with (go_at_call 62; refine (isRunSum_any _ _).mono ?_; rintro e w' ⟨rfl, rfl⟩)
    refine (searchRuns_any s 1 _ HS.out (by decide)).mono ?_
    rintro e w1 ⟨⟨M, b2, b3, b5, b6, rfl, hst, hM1, hM2, hM3, hM4, hb6w⟩, b1⟩
    have HST := Lib.hid hst
    have HMN : Hid (∀ k : Nat, 1 ≤ k → k ≤ M → (k : Int) ≤ rst s 1 k) := fun k _ hk => rst_mono (.inl rfl) k M hk hM3
    have HAN : Hid (ansR s 1 = runs s 1 M) := ansR_of HS.out M (by omega) (fun k hk h => by
      have := rst_mono (.inl rfl) (M + 1) k (by omega) h
      rw [show ((M + 1 : Nat) : Int) = (M : Int) + 1 by omega] at this
      have h4 := hM4
      omega) hM1
    have HB1 := Lib.hid b1
    have hb1s := b1.size
    clear hst b1 hM3 hM4
    go_wp2_with fail
    refine (srch_out s 1 M b2 b3 b5 b6 _ HST.out h1 h2 (.inl rfl) hM2 HMN.out).mono ?_
    rintro e w2 ⟨⟨run, fd, rfl, ho⟩, hg⟩
    have HB2 := Lib.hid (HB1.out.trans (gb_to hg hb6w hb1s))
    clear hg
    rcases ho with ⟨rfl, e2⟩ | ⟨k, g, x, y, rfl, rfl, e3, e4, e5, e6, _⟩
    · have HX : Hid (ansR s 1 = []) := by show _ = _; rw [HAN.out, e2]
      clear e2
      go_wp2
      go_ret3
      exact ⟨by rw [HX.out]; rfl, HB2.out⟩
    · have HX : Hid (ansR s 1 = (x, y) :: runs s 1 k) := by show _ = _; rw [HAN.out, e3]
      have d0 := e5.cell 0
      have d1 := e5.cell 1
      simp [ivs] at d0 d1
      clear e3 e4 e5 e6
      go_wp2
      go_quiet (fail)
      go_wp2
      go_ret3
      exact ⟨by rw [HX.out]; rfl, below_drewN HB2.out _⟩
  | false =>
    have HX : Hid (ansR s 1 = []) := ansR_no h
    go_enter Try.func35, Try.ntmps35
    go_wp2_with (go_at_call 62; refine (isRunSum_any _ _).mono ?_; rintro e w' ⟨rfl, rfl⟩)
    go_ret3
    exact ⟨by rw [HX.out]; rfl, Below.refl _ _⟩
theorem FnExactLongestRun_law (s : Int) (_h0 : (Lit.int .i64 s).wf = true) (w : World) :
    Calls Try.prog 11 #[.int .i64 s] w fun e w' => e = .returned (.bool true) ∧ Below w.heap.size w w' := by
  go_enter Try.func11, Try.ntmps11
  go_wp2_with (first | (go_at_call 34; go_must ((with_reducible refine (sLo_any _ _).mono ?_); rintro e w0 ⟨rfl, b0⟩)) | (go_at_call 35; go_must ((with_reducible refine (iLo_any _ _).mono ?_); rintro e w1 ⟨rfl, b1⟩)))
  go_ret
  exact ⟨rfl, chain b0 b1⟩
end Go.Proofs.Ytjjegpoimnkknaa
