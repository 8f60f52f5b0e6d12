/-
  Slices of slices of numbers whose rows have whatever room: append, compare.
-/
import Derived.Test.YtdjcgddcgjbboaaDoorSlRwsD
namespace Go.Proofs.YtdjcgddcgjbboaaDoor
open Go.RowKit

/-- A value is a slice of these rows of numbers, each in a row of the call's own, none in the outer row. -/
def SRw (B : Nat) (xss : List (List Int)) (v : Value) (w : World) : Prop :=
  ∃ ps : List (Value × List Int), ps.map Prod.snd = xss ∧ w.ownsRow B 22 1 v ps.length (ps.map Prod.fst) ∧ (∀ p ∈ ps, Ints B p.2 p.1 w) ∧ ∀ p ∈ ps, ∀ k, v.ownBlock = some k → p.1.ownBlock ≠ some k
theorem Ints.grown {B : Nat} {xs : List Int} {v : Value} {w w' : World} {row : Option Nat} (h : Ints B xs v w) (k : w.grownBy w' row) (hne : ∀ q, row = some q → v.ownBlock ≠ some q) : Ints B xs v w' := by
  unfold Ints at *
  refine World.ownsRow.kept h k ?_
  cases e : v.ownBlock with
  | none => exact .inl rfl
  | some q => exact .inr (fun e2 => hne q e2.symm e)
theorem SRw.below {B : Nat} {xss : List (List Int)} {v : Value} {w w' : World} (h : SRw B xss v w) (k : Below w.heap.size w w') : SRw B xss v w' := by
  obtain ⟨ps, h1, h2, h3, h4⟩ := h
  exact ⟨ps, h1, World.ownsRow.kept h2 (row := none) ⟨k.os, k.tape, k.output, k.size, fun i hi _ => k.block i hi⟩ (by cases v.ownBlock <;> simp), fun p hp => (h3 p hp).below k, h4⟩
theorem SRw.drewN {B : Nat} {xss : List (List Int)} {v : Value} {w : World} (h : SRw B xss v w) (n : Nat) : SRw B xss v (w.drewN n) := by
  obtain ⟨ps, h1, h2, h3, h4⟩ := h; exact ⟨ps, h1, h2, fun p hp => (h3 p hp).drewN n, h4⟩
theorem SRw.nil (B : Nat) (w : World) : SRw B [] (.slice none 0 0) w := ⟨[], rfl, World.ownsRow_nil _ _ _ _, (fun p hp => by cases hp), (fun p hp => by cases hp)⟩
theorem SRw.mono {B B' : Nat} {xss : List (List Int)} {v : Value} {w : World} (h : SRw B xss v w) (hB : B' ≤ B) : SRw B' xss v w := by
  obtain ⟨ps, h1, h2, h3, h4⟩ := h
  refine ⟨ps, h1, ⟨h2.1, ?_⟩, fun p hp => (h3 p hp).mono hB, h4⟩
  rcases h2.2 with h0 | ⟨g, cap, cur, hv, hb, r⟩
  · exact .inl h0
  · exact .inr ⟨g, cap, cur, hv, by omega, r⟩
theorem SRw.own_lt {B : Nat} {xss : List (List Int)} {v : Value} {w : World} (h : SRw B xss v w) : ∀ k, v.ownBlock = some k → k < w.heap.size := by
  obtain ⟨ps, h1, h2, h3, h4⟩ := h
  exact fun k hk => (World.ownsRow.lt h2 k hk).2
theorem SRw.form {B : Nat} {xss : List (List Int)} {v : Value} {w : World} (h : SRw B xss v w) :
    (∃ ao cap, v = .slice ao xss.length cap ∧ xss.length = 0) ∨ ∃ g cap, v = .slice (some ⟨g, 0, none⟩) xss.length cap ∧ g < w.heap.size ∧ ∀ i, i < xss.length → ∃ u, w.cell? ⟨g, i, none⟩ = some u ∧ Ints B (xss.getD i []) u w := by
  obtain ⟨ps, hps, h2, h3, h4⟩ := h
  have hl : ps.length = xss.length := by rw [← hps, List.length_map]
  have h' := h2
  rcases h2.2 with ⟨hv, hn⟩ | ⟨g, cap, cur, hv, hb, hg, _⟩
  · exact .inl ⟨none, 0, by rw [hv, ← hl, hn], by omega⟩
  · refine .inr ⟨g, cap, by rw [hv, hl], (Array.getElem?_eq_some_iff.1 hg).1, fun i hi => ?_⟩
    rw [hv] at h'
    have hi2 : i < ps.length := by omega
    refine ⟨ps[i].1, ?_, ?_⟩
    · rw [h'.cellAt i (by omega)]
      simp [List.getElem?_eq_getElem hi2]
    · have := h3 ps[i] (List.getElem_mem hi2)
      rw [show xss.getD i [] = ps[i].2 by rw [← hps]; simp [List.getD, List.getElem?_eq_getElem hi2]]
      exact this
/-- append of one row. -/
theorem wpList_append_srw (w : World) {ops : Array Oper} {rest : List Oper} {o : Oper} {a : Act} {Q : Exit → Act → World → Prop} (hgd : o.guard = none) (s x : Operand)
    (ho : o.op = .call { callee := .builtin .append, args := #[s, x], argTypes := #[26, 26] })
    (B : Nat) (xss : List (List Int)) (v : Value) (hs : a.eval s = v) (hown : SRw B xss v w) (k : Nat) (u : Value) (ys : List Int) (hx : a.eval x = .slice (some ⟨k, 0, none⟩) 1 1)
    (hc : w.cell? ⟨k, 0, none⟩ = some u) (hu : Ints B ys u w) (hnew : ∀ q, v.ownBlock = some q → u.ownBlock ≠ some q) (hlen : xss.length ≤ 1000000) (hB : B ≤ w.heap.size)
    (h : ∀ v' w', SRw B (xss ++ [ys]) v' w' → Below B w w' → wpList Tryd.prog ops Q rest (a.put o.dst v') w') :
    wpList Tryd.prog ops Q (o :: rest) a w := by
  obtain ⟨i0, hi, hz0, hz1, hz2⟩ := info_parts (show (Tryd.prog.info? 22).map (fun i => (i.zero, i.size, i.bytes)) = some (some (.slice none 0 0), 1, 24) by kernel_rfl)
  obtain ⟨ps, hps, hK, hin, hoff⟩ := hown
  have hl : ps.length = xss.length := by rw [← hps, List.length_map]
  have hone : u.oneCell' = true := by
    rcases hu.2 with ⟨hv, _⟩ | ⟨g, cap, cur, hv, _⟩
    · rw [hv]; rfl
    · rw [hv]; rfl
  refine wpList_append_own_at _ hgd s x 26 ho B 22 i0 (.slice none 0 0) 1 24 Tryd.underlying26 hi hz0 hz1 hz2 rfl (by decide) v ps.length (ps.map Prod.fst) hs hK ⟨k, 0, none⟩ 1 1 [u] hx rfl ?_ ?_ ?_ ?_ hB ?_
  · intro j z hj
    match j, hj with
    | 0, hj => simp at hj; subst hj; simpa [Addr.add] using hc
  · intro z hz; simp at hz; subst hz; exact hone
  · unfold maxLen; omega
  · omega
  · intro v' w' h1 hgr _ hat
    have hown_ne : ∀ z : Value, (∀ q, v.ownBlock = some q → z.ownBlock ≠ some q) → (∀ q, z.ownBlock = some q → q < w.heap.size) → ∀ q, v'.ownBlock = some q → z.ownBlock ≠ some q := by
      intro z h1 h2 q hq hz
      rcases hat with e | e
      · exact h1 q (by rw [← e]; exact hq) hz
      · rw [e] at hq; simp at hq; have := h2 q hz; omega
    refine h v' w' ⟨ps ++ [(u, ys)], by rw [List.map_append, hps]; rfl, by simpa using h1, fun p hp => ?_, fun p hp => ?_⟩ ((Below.refl B w).grown hgr hB (fun q hq => (World.ownsRow.lt hK q hq).1))
    · rcases List.mem_append.1 hp with hp | hp
      · exact (hin p hp).grown hgr (fun q hq => hoff p hp q hq)
      · simp at hp; subst hp
        exact hu.grown hgr (fun q hq => hnew q hq)
    · rcases List.mem_append.1 hp with hp | hp
      · exact hown_ne p.1 (hoff p hp) (hin p hp).own_lt
      · simp at hp; subst hp
        exact hown_ne u hnew hu.own_lt
theorem eqI_row2 (B : Nat) (xs : List Int) (p : Rw) (u : Value) (w : World) (hp : p.2 = xs) (hl : xs.length ≤ 1000) (h1 : Blk w p.1 (ivs p.2) 3) (h2 : Ints B xs u w) :
    Calls Tryd.prog 24 #[.slice (some ⟨p.1, 0, none⟩) p.2.length p.2.length, u] w fun e w' => e = .returned (.bool true) ∧ ∃ n, w' = w.drewN n := by
  have i1 := ints_of_blk h1 (by rw [hp]; exact hl)
  rw [hp] at i1
  exact eqInts_yes _ _ xs _ _ w (by omega) i1 h2
set_option maxHeartbeats 800000 in
theorem eqSR_any (B C : Nat) (ps : List Rw) (xss : List (List Int)) (v u : Value) (w : World) (hn : ps.length ≤ 1000000) (hw : ∀ i (hi : i < ps.length), ps[i].2.length ≤ 1000) (he : ps.map Prod.snd = xss) (h1 : RwsOf B ps v w) (h2 : SRw C xss u w) :
    Calls Tryd.prog 12 #[v, u] w fun e w' => e = .returned (.bool true) ∧ ∃ n, w' = w.drewN n := by
  have hl : xss.length = ps.length := by have := congrArg List.length he; simpa using this.symm
  obtain ⟨n, hnn⟩ : ∃ n, n = ps.length := ⟨_, rfl⟩
  have HL := Lib.hid hl
  have HN := Lib.hid hnn
  have HE := Lib.hid he
  have HW := Lib.hid hw
  have H1 := Lib.hid h1
  clear he hw
  rcases h1.form with ⟨ao, cap, rfl, h0⟩ | ⟨g, cap, rfl, _, _, hc⟩
  · rcases h2.form with ⟨ao2, cap2, rfl, _⟩ | ⟨g2, cap2, rfl, _, _⟩
    all_goals
      rw [hl, h0]
      clear h1 h2 hn hnn
      go_enter Tryd.func12, Tryd.ntmps12
      go_wp2
      go_loopw [5] (fun i wr => i = .int .i64 0 ∧ ∃ q, wr = w.drewN q) (fun _ _ => 0)
      case atStart => exact ⟨rfl, 0, rfl⟩
      case round =>
        obtain ⟨rfl, q, rfl⟩ := hrel
        go_wp2
        go_ret
        exact ⟨rfl, q, rfl⟩
  · rcases h2.form with ⟨ao2, cap2, rfl, h0⟩ | ⟨g2, cap2, rfl, _, hc2⟩
    · have h0' : ps.length = 0 := by omega
      rw [h0, h0']
      clear h1 h2 hn hnn hc
      go_enter Tryd.func12, Tryd.ntmps12
      go_wp2
      go_loopw [5] (fun i wr => i = .int .i64 0 ∧ ∃ q, wr = w.drewN q) (fun _ _ => 0)
      case atStart => exact ⟨rfl, 0, rfl⟩
      case round =>
        obtain ⟨rfl, q, rfl⟩ := hrel
        go_wp2
        go_ret
        exact ⟨rfl, q, rfl⟩
    · have HC := Lib.hid hc
      have HC2 := Lib.hid hc2
      rw [hl, ← hnn]
      rw [← hnn] at hn
      clear h1 h2 hnn hc hc2 hl
      go_enter Tryd.func12, Tryd.ntmps12
      go_wp2
      go_loopw [5] (fun i wr => ∃ k q : Nat, k ≤ n ∧ i = .int .i64 k ∧ wr = w.drewN q) (fun i _ => n - (intOf i).toNat)
      case atStart => exact ⟨0, 0, Nat.zero_le _, rfl, rfl⟩
      case round =>
        obtain ⟨k, q, hk, rfl, rfl⟩ := hrel
        by_cases hlt : k < n
        · have hkp : k < ps.length := by rw [← HN.out]; exact hlt
          have hkq : k < xss.length := by rw [HL.out]; exact hkp
          obtain ⟨p, hp⟩ : ∃ p, p = ps[k] := ⟨_, rfl⟩
          obtain ⟨u, hcu, hui⟩ := HC2.out k hkq
          have HUI := Lib.hid hui
          have HPR : Hid (p.2 = xss.getD k []) := by
            show _ = _
            rw [← HE.out, hp]; simp [List.getD, List.getElem?_eq_getElem hkp]
          have HPL : Hid ((xss.getD k []).length ≤ 1000) := by show _ ≤ _; rw [← HPR.out, hp]; exact HW.out k hkp
          have d1 : w.cell? ⟨g, k, none⟩ = some (.slice (some ⟨p.1, 0, none⟩) p.2.length p.2.length) := by rw [HC.out k hkp, ← hp]; rfl
          have d2 : w.cell? ⟨g2, k, none⟩ = some u := hcu
          have HB1 : Hid (Blk w p.1 (ivs p.2) 3) := by rw [hp]; exact H1.out.blk k hkp
          have hk0 : (0 : Int) ≤ (k : Int) := by omega
          have hk1 : (k : Int) < (n : Int) := by omega
          clear hp hkp hkq hcu hui
          go_wp2
          go_quiet (first | (go_at_call 24; refine (eqI_row2 C _ p u _ HPR.out HPL.out (Blk.drewN HB1.out _) (HUI.out.drewN _)).mono ?_; rintro e w' ⟨rfl, m, rfl⟩; exact ⟨rfl, _, by rw [World.drewN_drewN, Nat.add_assoc]⟩))
          go_wp2
          go_roundw
          case rel => exact ⟨k + 1, q + nq, by omega, by go_num, rfl⟩
          case measure => simp [intOf]; omega
        · go_wp2
          go_ret
          exact ⟨rfl, q, rfl⟩
end Go.Proofs.YtdjcgddcgjbboaaDoor
