/-
  append of a row that lies elsewhere; append of rows behind a new one.
-/
import Derived.Test.YtjjegpoimnkknaaHoBs
import Derived.Deep.AppendSrc
namespace Go.Proofs.Ytjjegpoimnkknaa
open Go.RowKit

/-- Rows all of whose blocks lie from B on and below C. -/
def RwsC (B C : Nat) (xss : List (List Int)) (v : Value) (w : World) : Prop := ∃ ps : List Rw, ps.map Prod.snd = xss ∧ RwsOf B ps v w ∧ (∀ i (hi : i < ps.length), ps[i].1 < C) ∧ ∀ k, v.ownBlock = some k → k < C
theorem Rws.toC {B : Nat} {xss : List (List Int)} {v : Value} {w : World} (h : Rws B xss v w) : RwsC B w.heap.size xss v w := by
  obtain ⟨ps, h1, h2⟩ := h
  exact ⟨ps, h1, h2, h2.row_lt, h2.own_lt⟩
theorem RwsC.toR {B C : Nat} {xss : List (List Int)} {v : Value} {w : World} (h : RwsC B C xss v w) : Rws B xss v w := by
  obtain ⟨ps, h1, h2, _⟩ := h
  exact ⟨ps, h1, h2⟩
/-- One block below B is written, others are new. -/
theorem RwsC.grown {B C b : Nat} {xss : List (List Int)} {v : Value} {w w' : World} (h : RwsC B C xss v w) (k : w.grownBy w' (some b)) (hb : b < B) : RwsC B C xss v w' := by
  obtain ⟨ps, h1, h2, h3, h4⟩ := h
  have hblk : ∀ g, B ≤ g → g < w.heap.size → w'.heap[g]? = w.heap[g]? := fun g hg hl => k.block g hl (fun e => by cases e; omega)
  refine ⟨ps, h1, ⟨⟨h2.own.1, ?_⟩, h2.inj, h2.base, h2.off, fun i hi => ?_⟩, h3, h4⟩
  · rcases h2.own.2 with h0 | ⟨g, cap, cur, hv, hbg, hg, r⟩
    · exact .inl h0
    · refine .inr ⟨g, cap, cur, hv, hbg, ?_, r⟩
      rw [hblk g hbg (Array.getElem?_eq_some_iff.1 hg).1]; exact hg
  · have := h2.blk i hi
    unfold Blk at *
    rw [hblk _ (h2.base i hi) (h2.row_lt i hi)]; exact this
theorem RwsC.below {B C : Nat} {xss : List (List Int)} {v : Value} {w w' : World} (h : RwsC B C xss v w) (k : Below w.heap.size w w') : RwsC B C xss v w' := by
  obtain ⟨ps, h1, h2, h3, h4⟩ := h
  exact ⟨ps, h1, h2.below k, h3, h4⟩
/-- append of one row whose block is not below C. -/
theorem wpList_append_rwC (w : World) {ops : Array Oper} {rest : List Oper} {o : Oper} {a : Act} {Q : Exit → Act → World → Prop} (hgd : o.guard = none) (s x : Operand)
    (ho : o.op = .call { callee := .builtin .append, args := #[s, x], argTypes := #[25, 25] })
    (B C : Nat) (xss : List (List Int)) (v : Value) (hs : a.eval s = v) (hown : RwsC B C xss v w) (k g : Nat) (ys : List Int) (hx : a.eval x = .slice (some ⟨k, 0, none⟩) 1 1)
    (hc : w.cell? ⟨k, 0, none⟩ = some (rowV (g, ys))) (hg : Blk w g (ivs ys) 3) (hg0 : C ≤ g) (hBg : B ≤ g) (hlen : xss.length ≤ 1000000) (hB : B ≤ w.heap.size)
    (h : ∀ v' w', Rws B (xss ++ [ys]) v' w' → Below B w w' → wpList Try.prog ops Q rest (a.put o.dst v') w') :
    wpList Try.prog ops Q (o :: rest) a w := by
  obtain ⟨i0, hi, hz0, hz1, hz2⟩ := info_parts (show (Try.prog.info? 42).map (fun i => (i.zero, i.size, i.bytes)) = some (some (.slice none 0 0), 1, 24) by kernel_rfl)
  obtain ⟨ps, hps, hK, hpc, hvc⟩ := hown
  have hl : ps.length = xss.length := by rw [← hps, List.length_map]
  refine wpList_append_own_at _ hgd s x 25 ho B 42 i0 (.slice none 0 0) 1 24 Try.underlying25 hi hz0 hz1 hz2 rfl (by decide) v ps.length (ps.map rowV) hs hK.own ⟨k, 0, none⟩ 1 1 [rowV (g, ys)] hx rfl ?_ ?_ ?_ ?_ hB ?_
  · intro j u hj
    match j, hj with
    | 0, hj => simp at hj; subst hj; simpa [Addr.add] using hc
  · intro u hu; simp at hu; subst hu; rfl
  · unfold maxLen; omega
  · omega
  · intro v' w' h1 hgr _ hat
    have hgl := hg.lt
    have hne : ∀ c : Nat, c < w.heap.size → v.ownBlock ≠ some c → v'.ownBlock ≠ some c := by
      intro c hc1 hc2 hc3
      rcases hat with e | e
      · exact hc2 (by rw [← e]; exact hc3)
      · rw [e] at hc3; simp at hc3; omega
    have hvg : v.ownBlock ≠ some g := fun e => by have := hvc g e; omega
    refine h v' w' ⟨ps ++ [(g, ys)], by rw [List.map_append, hps]; rfl, ⟨by simpa using h1, ?_, ?_, ?_, ?_⟩⟩ ?_
    · intro i j hi hj e
      rw [List.length_append, List.length_singleton] at hi hj
      by_cases a1 : i < ps.length <;> by_cases a2 : j < ps.length
      · rw [List.getElem_append_left a1, List.getElem_append_left a2] at e
        exact hK.inj i j a1 a2 e
      · rw [List.getElem_append_left a1, List.getElem_append_right (by omega)] at e
        have := hpc i a1
        simp at e; omega
      · rw [List.getElem_append_right (by omega), List.getElem_append_left a2] at e
        have := hpc j a2
        simp at e; omega
      · omega
    · intro i hi
      rw [List.length_append, List.length_singleton] at hi
      by_cases a1 : i < ps.length
      · rw [List.getElem_append_left a1]; exact hK.base i a1
      · rw [List.getElem_append_right (by omega)]; simp; omega
    · intro i hi
      rw [List.length_append, List.length_singleton] at hi
      by_cases a1 : i < ps.length
      · rw [List.getElem_append_left a1]
        exact hne _ (hK.row_lt i a1) (hK.off i a1)
      · rw [List.getElem_append_right (by omega)]; simp
        exact hne g hgl hvg
    · intro i hi
      rw [List.length_append, List.length_singleton] at hi
      by_cases a1 : i < ps.length
      · rw [List.getElem_append_left a1]
        have := hK.blk i a1
        unfold Blk at *
        rw [hgr.block _ (hK.row_lt i a1) (fun e => hK.off i a1 e.symm)]; exact this
      · rw [List.getElem_append_right (by omega)]; simp
        unfold Blk at *
        rw [hgr.block _ hgl (fun e => hvg e.symm)]; exact hg
    · exact (Below.refl B w).grown hgr hB (fun q hq => (World.ownsRow.lt hK.own q hq).1)
/-- append of nothing to a slice of one. -/
theorem wpList_append_nil (w : World) {ops : Array Oper} {rest : List Oper} {o : Oper} {a : Act} {Q : Exit → Act → World → Prop} (hgd : o.guard = none) (s x : Operand)
    (ho : o.op = .call { callee := .builtin .append, args := #[s, x], argTypes := #[25, 25] })
    (q : Nat) (hs : a.eval s = .slice (some ⟨q, 0, none⟩) 1 1) (hx : a.eval x = .slice none 0 0)
    (h : wpList Try.prog ops Q rest (a.put o.dst (.slice (some ⟨q, 0, none⟩) 1 1)) w) :
    wpList Try.prog ops Q (o :: rest) a w := by
  obtain ⟨i0, hi, hz0, hz1, hz2⟩ := info_parts (show (Try.prog.info? 42).map (fun i => (i.zero, i.size, i.bytes)) = some (some (.slice none 0 0), 1, 24) by kernel_rfl)
  have hr := run_append_room_src (P := Try.prog) w 25 25 o.type 42 i0 Try.underlying25 hi q 0 1 1 (.slice none 0 0) 0 [] (Src.ofNil w Try.underlying25 0) (Nat.le_refl _) (fun j hj => by simp at hj) (fun j hj => by simp at hj)
  have hsc : w.setCells q (0 + 1 * i0.size) [] = w := rfl
  rw [hsc] at hr
  refine wpList_plain hgd fun K hK => ?_
  unfold Oper.wp execOp
  simp only [ho, resolve, invoke, builtin, Sem.run_bind, Sem.run_pure, Result.andThen_ok, List.map_toArray, List.map_cons, List.map_nil, hs, hx, hr]
  exact hK _ _ h
/-- A row of two numbers, and the rows behind it. -/
theorem wpList_append_front (wr : World) {ops : Array Oper} {rest : List Oper} {o : Oper} {a : Act} {Q : Exit → Act → World → Prop} (h l : Int) (hgd : o.guard = none) (s x : Operand)
    (ho : o.op = .call { callee := .builtin .append, args := #[s, x], argTypes := #[25, 25] })
    (B : Nat) (xss : List (List Int)) (v : Value) (hown : (xss = [] ∧ v = .slice none 0 0) ∨ (xss ≠ [] ∧ Rws B xss v wr)) (hs : a.eval s = .slice (some ⟨wr.heap.size + 1, 0, none⟩) 1 1) (hx : a.eval x = v) (hlen : xss.length ≤ 1000000) (hB : B ≤ wr.heap.size)
    (hk : ∀ v' w', Rws B ([h, l] :: xss) v' w' → Below B wr w' → wpList Try.prog ops Q rest (a.put o.dst v') w') :
    wpList Try.prog ops Q (o :: rest) a ((wr.alloc (.cells #[.int .i64 h, .int .i64 l] 3)).alloc (.cells #[.slice (some ⟨wr.heap.size, 0, none⟩) 2 2] 42)) := by
  obtain ⟨h1, h2, h3⟩ := two_new wr h l _ rfl
  obtain ⟨W, hW⟩ : ∃ W, W = (wr.alloc (.cells #[.int .i64 h, .int .i64 l] 3)).alloc (.cells #[.slice (some ⟨wr.heap.size, 0, none⟩) 2 2] 42) := ⟨_, rfl⟩
  have hWs : W.heap.size = wr.heap.size + 2 := by rw [hW]; simp
  have hWq : W.heap[wr.heap.size + 1]? = some (.cells #[.slice (some ⟨wr.heap.size, 0, none⟩) 2 2] 42 (0, 0)) := by
    have := Blk.new (wr.alloc (.cells #[.int .i64 h, .int .i64 l] 3)) #[.slice (some ⟨wr.heap.size, 0, none⟩) 2 2] 42
    simp only [World.size_alloc] at this
    rw [hW]; exact this
  have hlit : W.ownsRow B 42 1 (.slice (some ⟨wr.heap.size + 1, 0, none⟩) 1 1) 1 [rowV (wr.heap.size, [h, l])] :=
    ⟨rfl, .inr ⟨wr.heap.size + 1, 1, _, rfl, by omega, hWq, Nat.le_refl _, by unfold maxLen; omega, rfl, rfl⟩⟩
  rw [← hW] at h1 h2 h3 ⊢
  rcases hown with ⟨hxs, hv⟩ | ⟨hne, ps, hps, h0⟩
  · refine wpList_append_nil W hgd s x ho (wr.heap.size + 1) hs (hx.trans hv) (hk _ W ⟨[(wr.heap.size, [h, l])], by rw [hxs]; rfl, ⟨hlit, ?_, ?_, ?_, ?_⟩⟩ (h3.mono hB))
    · intro i j hi hj _; simp at hi hj; omega
    · intro i hi; simp at hi; subst hi; exact hB
    · intro i hi; simp at hi; subst hi; simp [Value.ownBlock]
    · intro i hi; simp at hi; subst hi; exact h2
  · obtain ⟨i0, hi, hz0, hz1, hz2⟩ := info_parts (show (Try.prog.info? 42).map (fun i => (i.zero, i.size, i.bytes)) = some (some (.slice none 0 0), 1, 24) by kernel_rfl)
    have hl : ps.length = xss.length := by rw [← hps, List.length_map]
    have hpos : 0 < ps.length := by
      rw [hl]
      cases xss with
      | nil => exact absurd rfl hne
      | cons y ys => simp
    rcases h0.form with ⟨ao, cap, hv, hz⟩ | ⟨g, cap, hv, hBg, hgl, hc⟩
    · omega
    refine wpList_append_own_at _ hgd s x 25 ho B 42 i0 (.slice none 0 0) 1 24 Try.underlying25 hi hz0 hz1 hz2 rfl (by decide) _ 1 _ hs hlit ⟨g, 0, none⟩ ps.length cap (ps.map rowV) (hx.trans hv) (by simp) ?_ ?_ ?_ ?_ (by omega) ?_
    · intro j u hj
      obtain ⟨hj1, hj2⟩ := List.getElem?_eq_some_iff.1 hj
      rw [List.length_map] at hj1
      have e : (⟨g, 0, none⟩ : Addr).add j = ⟨g, j, none⟩ := by simp [Addr.add]; intro h; exact h.symm
      rw [e, (h3.cell (p := ⟨g, j, none⟩) hgl), hc j hj1, ← hj2, List.getElem_map]
    · intro u hu
      obtain ⟨p, _, rfl⟩ := List.mem_map.1 hu
      rfl
    · unfold maxLen; omega
    · omega
    · intro v' w' k1 hgr _ hat
      have hblk : ∀ c : Nat, c < W.heap.size → c ≠ wr.heap.size + 1 → w'.heap[c]? = W.heap[c]? := fun c hc1 hc2 => hgr.block c hc1 (fun e => by simp [Value.ownBlock] at e; omega)
      have hne' : ∀ c : Nat, c ≤ wr.heap.size → v'.ownBlock ≠ some c := by
        intro c hc1 hc2
        rcases hat with e | e
        · rw [e] at hc2; simp [Value.ownBlock] at hc2; omega
        · rw [e] at hc2; simp at hc2; omega
      refine hk v' w' ⟨(wr.heap.size, [h, l]) :: ps, by rw [List.map_cons, hps], ⟨?_, ?_, ?_, ?_, ?_⟩⟩ ?_
      · rw [List.length_cons, Nat.add_comm]; exact k1
      · intro i j hi hj e
        cases i with
        | zero =>
          cases j with
          | zero => rfl
          | succ j =>
            simp only [List.getElem_cons_zero, List.getElem_cons_succ] at e
            simp only [List.length_cons] at hj
            have := h0.row_lt j (by omega)
            omega
        | succ i =>
          cases j with
          | zero =>
            simp only [List.getElem_cons_zero, List.getElem_cons_succ] at e
            simp only [List.length_cons] at hi
            have := h0.row_lt i (by omega)
            omega
          | succ j =>
            simp only [List.getElem_cons_succ] at e
            simp only [List.length_cons] at hi hj
            have := h0.inj i j (by omega) (by omega) e
            omega
      · intro i hi
        cases i with
        | zero => exact hB
        | succ i => simp only [List.length_cons] at hi; exact h0.base i (by omega)
      · intro i hi
        cases i with
        | zero => exact hne' _ (Nat.le_refl _)
        | succ i =>
          simp only [List.length_cons] at hi
          exact hne' _ (by have := h0.row_lt i (by omega); simp only [List.getElem_cons_succ]; omega)
      · intro i hi
        cases i with
        | zero =>
          simp only [List.getElem_cons_zero]
          unfold Blk at *
          rw [hblk _ (by omega) (by omega)]; exact h2
        | succ i =>
          simp only [List.length_cons] at hi
          simp only [List.getElem_cons_succ]
          have a1 := h0.row_lt i (by omega)
          have := (h0.blk i (by omega)).keep h3
          unfold Blk at *
          rw [hblk _ (by omega) (by omega)]; exact this
      · refine (h3.mono hB).trans ((Below.refl B W).grown hgr (by omega) (fun q hq => ?_))
        simp [Value.ownBlock] at hq; omega
end Go.Proofs.Ytjjegpoimnkknaa
