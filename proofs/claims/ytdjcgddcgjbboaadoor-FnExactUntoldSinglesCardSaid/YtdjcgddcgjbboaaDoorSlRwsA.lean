/-
  Slices of slices of numbers, each in a row of the call's own: what they are.
-/
import Derived.Test.YtdjcgddcgjbboaaDoorSlTo
import Derived.Test.YtdjcgddcgjbboaaDoorSlice
import Derived.Maps.AppendAt
namespace Go.Proofs.YtdjcgddcgjbboaaDoor
open Go.RowKit

/-- The cells of numbers. -/
def ivs (xs : List Int) : Array Value := (xs.map (Value.int .i64)).toArray
theorem ivs_size (xs : List Int) : (ivs xs).size = xs.length := by simp [ivs]
theorem ivs_get (xs : List Int) (i : Nat) (h : i < xs.length) : (ivs xs)[i]? = some (.int .i64 xs[i]) := by simp [ivs, List.getElem?_eq_getElem h]
/-- A row by its block and numbers; the slice over the whole row. -/
abbrev Rw := Nat × List Int
def rowV (p : Rw) : Value := .slice (some ⟨p.1, 0, none⟩) p.2.length p.2.length
/-- A value is a slice of these rows, all in blocks of the call's own from B on, no two the same. -/
structure RwsOf (B : Nat) (ps : List Rw) (v : Value) (w : World) : Prop where
  own : w.ownsRow B 22 1 v ps.length (ps.map rowV)
  inj : ∀ i j (hi : i < ps.length) (hj : j < ps.length), ps[i].1 = ps[j].1 → i = j
  base : ∀ i (hi : i < ps.length), B ≤ ps[i].1
  off : ∀ i (hi : i < ps.length), v.ownBlock ≠ some ps[i].1
  blk : ∀ i (hi : i < ps.length), Blk w ps[i].1 (ivs ps[i].2) 3
theorem RwsOf.form {B : Nat} {ps : List Rw} {v : Value} {w : World} (h : RwsOf B ps v w) :
    (∃ ao cap, v = .slice ao ps.length cap ∧ ps.length = 0) ∨ ∃ g cap, v = .slice (some ⟨g, 0, none⟩) ps.length cap ∧ B ≤ g ∧ g < w.heap.size ∧ (∀ i (hi : i < ps.length), w.cell? ⟨g, i, none⟩ = some (rowV ps[i])) := by
  have h' := h.own
  rcases h.own.2 with ⟨hv, hn⟩ | ⟨g, cap, cur, hv, hb, hg, _⟩
  · exact .inl ⟨none, 0, by rw [hv, hn], hn⟩
  · refine .inr ⟨g, cap, hv, hb, (Array.getElem?_eq_some_iff.1 hg).1, fun i hi => ?_⟩
    rw [hv] at h'
    rw [h'.cellAt i (by omega)]
    simp [List.getElem?_eq_getElem hi]
theorem RwsOf.own_lt {B : Nat} {ps : List Rw} {v : Value} {w : World} (h : RwsOf B ps v w) : ∀ k, v.ownBlock = some k → k < w.heap.size := fun k hk => (World.ownsRow.lt h.own k hk).2
theorem RwsOf.row_lt {B : Nat} {ps : List Rw} {v : Value} {w : World} (h : RwsOf B ps v w) : ∀ i (hi : i < ps.length), ps[i].1 < w.heap.size := fun i hi => (h.blk i hi).lt
theorem RwsOf.apart {B C : Nat} {ps : List Rw} {v : Value} {w w' : World} (h : RwsOf B ps v w) (hv : ∀ k, v.ownBlock = some k → k < C) (hp : ∀ i (hi : i < ps.length), ps[i].1 < C) (k : Below C w w') : RwsOf B ps v w' := by
  refine ⟨⟨h.own.1, ?_⟩, h.inj, h.base, h.off, fun i hi => ?_⟩
  · rcases h.own.2 with h0 | ⟨g, cap, cur, hv', hb, hg, r⟩
    · exact .inl h0
    · refine .inr ⟨g, cap, cur, hv', hb, ?_, r⟩
      rw [k.block g (hv g (by rw [hv']; rfl))]; exact hg
  · have := h.blk i hi
    unfold Blk at *
    rw [k.block _ (hp i hi)]; exact this
theorem RwsOf.below {B : Nat} {ps : List Rw} {v : Value} {w w' : World} (h : RwsOf B ps v w) (k : Below w.heap.size w w') : RwsOf B ps v w' := h.apart h.own_lt h.row_lt k
theorem RwsOf.drewN {B : Nat} {ps : List Rw} {v : Value} {w : World} (h : RwsOf B ps v w) (n : Nat) : RwsOf B ps v (w.drewN n) := ⟨h.own, h.inj, h.base, h.off, h.blk⟩
theorem RwsOf.mono {B B' : Nat} {ps : List Rw} {v : Value} {w : World} (h : RwsOf B ps v w) (hB : B' ≤ B) : RwsOf B' ps v w := by
  refine ⟨⟨h.own.1, ?_⟩, h.inj, fun i hi => by have := h.base i hi; omega, h.off, h.blk⟩
  rcases h.own.2 with h0 | ⟨g, cap, cur, hv, hb, r⟩
  · exact .inl h0
  · exact .inr ⟨g, cap, cur, hv, by omega, r⟩
/-- The same without the blocks. -/
def Rws (B : Nat) (xss : List (List Int)) (v : Value) (w : World) : Prop := ∃ ps : List Rw, ps.map Prod.snd = xss ∧ RwsOf B ps v w
theorem Rws.below {B : Nat} {xss : List (List Int)} {v : Value} {w w' : World} (h : Rws B xss v w) (k : Below w.heap.size w w') : Rws B xss v w' := by
  obtain ⟨ps, h1, h2⟩ := h; exact ⟨ps, h1, h2.below k⟩
theorem Rws.drewN {B : Nat} {xss : List (List Int)} {v : Value} {w : World} (h : Rws B xss v w) (n : Nat) : Rws B xss v (w.drewN n) := by
  obtain ⟨ps, h1, h2⟩ := h; exact ⟨ps, h1, h2.drewN n⟩
theorem Rws.mono {B B' : Nat} {xss : List (List Int)} {v : Value} {w : World} (h : Rws B xss v w) (hB : B' ≤ B) : Rws B' xss v w := by
  obtain ⟨ps, h1, h2⟩ := h; exact ⟨ps, h1, h2.mono hB⟩
theorem Rws.nil (B : Nat) (w : World) : Rws B [] (.slice none 0 0) w := ⟨[], rfl, World.ownsRow_nil _ _ _ _, fun i j hi => by simp at hi, fun i hi => by simp at hi, fun i hi => by simp at hi, fun i hi => by simp at hi⟩
theorem Rws.len {B : Nat} {xss : List (List Int)} {v : Value} {w : World} (h : Rws B xss v w) : ∃ ao cap, v = .slice ao xss.length cap := by
  obtain ⟨ps, h1, h2⟩ := h
  have hl : ps.length = xss.length := by rw [← h1, List.length_map]
  rcases h2.form with ⟨ao, cap, hv, _⟩ | ⟨g, cap, hv, _⟩
  · exact ⟨ao, cap, by rw [hv, hl]⟩
  · exact ⟨_, cap, by rw [hv, hl]⟩
/-- The slice over a row is a slice of numbers in a row of the call's own. -/
theorem ints_of_blk {w : World} {p : Rw} (h : Blk w p.1 (ivs p.2) 3) (hl : p.2.length ≤ 1000) : Ints p.1 p.2 (rowV p) w := by
  refine ⟨by simp, .inr ⟨p.1, p.2.length, ivs p.2, rfl, Nat.le_refl _, h, Nat.le_refl _, by unfold maxLen; omega, by rw [ivs_size, Nat.mul_one], ?_⟩⟩
  unfold ivs
  rw [Nat.mul_one, List.toList_toArray, List.take_of_length_le (by simp)]
/-- append of one row. -/
theorem wpList_append_rw (w : World) {ops : Array Oper} {rest : List Oper} {o : Oper} {a : Act} {Q : Exit → Act → World → Prop} (hgd : o.guard = none) (s x : Operand)
    (ho : o.op = .call { callee := .builtin .append, args := #[s, x], argTypes := #[26, 26] })
    (B : Nat) (xss : List (List Int)) (v : Value) (hs : a.eval s = v) (w0 : World) (hown : Rws B xss v w0) (hbw : Below w0.heap.size w0 w) (k g : Nat) (ys : List Int) (hx : a.eval x = .slice (some ⟨k, 0, none⟩) 1 1)
    (hc : w.cell? ⟨k, 0, none⟩ = some (rowV (g, ys))) (hg : Blk w g (ivs ys) 3) (hg0 : w0.heap.size ≤ g) (hlen : xss.length ≤ 1000000) (hB : B ≤ w0.heap.size)
    (h : ∀ v' w', Rws B (xss ++ [ys]) v' w' → Below B w w' → wpList Tryd.prog ops Q rest (a.put o.dst v') w') :
    wpList Tryd.prog ops Q (o :: rest) a w := by
  obtain ⟨i0, hi, hz0, hz1, hz2⟩ := info_parts (show (Tryd.prog.info? 22).map (fun i => (i.zero, i.size, i.bytes)) = some (some (.slice none 0 0), 1, 24) by kernel_rfl)
  obtain ⟨ps, hps, h0⟩ := hown
  have hl : ps.length = xss.length := by rw [← hps, List.length_map]
  have hK := h0.below hbw
  have hsz := hbw.size
  refine wpList_append_own_at _ hgd s x 26 ho B 22 i0 (.slice none 0 0) 1 24 Tryd.underlying26 hi hz0 hz1 hz2 rfl (by decide) v ps.length (ps.map rowV) hs hK.own ⟨k, 0, none⟩ 1 1 [rowV (g, ys)] hx rfl ?_ ?_ ?_ ?_ (by omega) ?_
  · intro j u hj
    match j, hj with
    | 0, hj => simp at hj; subst hj; simpa [Addr.add] using hc
  · intro u hu; simp at hu; subst hu; rfl
  · unfold maxLen; omega
  · omega
  · intro v' w' h1 hgr _ hat
    have hgl := hg.lt
    have hne : ∀ c : Nat, c < w.heap.size → v.ownBlock ≠ some c → v'.ownBlock ≠ some c := by
      intro c hc1 hc2 hc3
      rcases hat with e | e
      · exact hc2 (by rw [← e]; exact hc3)
      · rw [e] at hc3; simp at hc3; omega
    have hvg : v.ownBlock ≠ some g := fun e => by have := h0.own_lt g e; omega
    refine h v' w' ⟨ps ++ [(g, ys)], by rw [List.map_append, hps]; rfl, ⟨by simpa using h1, ?_, ?_, ?_, ?_⟩⟩ ?_
    · intro i j hi hj e
      rw [List.length_append, List.length_singleton] at hi hj
      by_cases a1 : i < ps.length <;> by_cases a2 : j < ps.length
      · rw [List.getElem_append_left a1, List.getElem_append_left a2] at e
        exact h0.inj i j a1 a2 e
      · rw [List.getElem_append_left a1, List.getElem_append_right (by omega)] at e
        have := h0.row_lt i a1
        simp at e; omega
      · rw [List.getElem_append_right (by omega), List.getElem_append_left a2] at e
        have := h0.row_lt j a2
        simp at e; omega
      · omega
    · intro i hi
      rw [List.length_append, List.length_singleton] at hi
      by_cases a1 : i < ps.length
      · rw [List.getElem_append_left a1]; exact h0.base i a1
      · rw [List.getElem_append_right (by omega)]; simp; omega
    · intro i hi
      rw [List.length_append, List.length_singleton] at hi
      by_cases a1 : i < ps.length
      · rw [List.getElem_append_left a1]
        exact hne _ (by have := h0.row_lt i a1; omega) (h0.off i a1)
      · rw [List.getElem_append_right (by omega)]; simp
        exact hne g hgl hvg
    · intro i hi
      rw [List.length_append, List.length_singleton] at hi
      by_cases a1 : i < ps.length
      · rw [List.getElem_append_left a1]
        have := hK.blk i a1
        unfold Blk at *
        rw [hgr.block _ (hK.row_lt i a1) (fun e => h0.off i a1 e.symm)]; exact this
      · rw [List.getElem_append_right (by omega)]; simp
        unfold Blk at *
        rw [hgr.block _ hgl (fun e => hvg e.symm)]; exact hg
    · exact (Below.refl B w).grown hgr (by omega) (fun q hq => (World.ownsRow.lt h0.own q hq).1)
end Go.Proofs.YtdjcgddcgjbboaaDoor
