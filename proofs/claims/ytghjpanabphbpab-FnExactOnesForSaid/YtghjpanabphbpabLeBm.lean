/-
  Least numbers: the model's least multiple.
-/
import Derived.Test.YtghjpanabphbpabLeBi
namespace Go.Proofs.Ytghjpanabphbpab
open Go.RowKit
set_option maxRecDepth 100000

def tV (t : List Nat) : Value := .string ⟨(tb t).toArray⟩
def nV (r : Nat) : Value := .int .i64 (r : Nat)
/-- Texts, numbers, in rows of the call's own. -/
def TRow (B : Nat) (ts : List (List Nat)) (v : Value) (w : World) : Prop := w.ownsRow B 9 1 v ts.length (ts.map tV)
def NRow (B : Nat) (rs : List Nat) (v : Value) (w : World) : Prop := w.ownsRow B 3 1 v rs.length (rs.map nV)
theorem TRow.form {B : Nat} {ts : List (List Nat)} {v : Value} {w : World} (h : TRow B ts v w) :
    (v = .slice none 0 0 ∧ ts.length = 0) ∨ ∃ g cap, v = .slice (some ⟨g, 0, none⟩) ts.length cap ∧ B ≤ g ∧ g < w.heap.size ∧ (∀ i, i < ts.length → w.cell? ⟨g, i, none⟩ = some (tV (ts.getD i []))) := by
  have h' := h
  rcases h.2 with ⟨hv, hn⟩ | ⟨g, cap, cur, hv, hb, hg, _⟩
  · exact .inl ⟨hv, hn⟩
  · refine .inr ⟨g, cap, hv, hb, (Array.getElem?_eq_some_iff.1 hg).1, fun i hi => ?_⟩
    unfold TRow at h'
    rw [hv] at h'
    rw [h'.cellAt i (by omega)]
    simp [List.getElem?_eq_getElem hi]
theorem NRow.form {B : Nat} {rs : List Nat} {v : Value} {w : World} (h : NRow B rs v w) :
    (v = .slice none 0 0 ∧ rs.length = 0) ∨ ∃ g cap, v = .slice (some ⟨g, 0, none⟩) rs.length cap ∧ B ≤ g ∧ g < w.heap.size ∧ (∀ i, i < rs.length → w.cell? ⟨g, i, none⟩ = some (nV (rs.getD i 0))) := by
  have h' := h
  rcases h.2 with ⟨hv, hn⟩ | ⟨g, cap, cur, hv, hb, hg, _⟩
  · exact .inl ⟨hv, hn⟩
  · refine .inr ⟨g, cap, hv, hb, (Array.getElem?_eq_some_iff.1 hg).1, fun i hi => ?_⟩
    unfold NRow at h'
    rw [hv] at h'
    rw [h'.cellAt i (by omega)]
    simp [List.getElem?_eq_getElem hi]
/-- What a step keeps that touches no block but those told. -/
theorem own_kept {w w' : World} {B n : Nat} {T : TypeId} {xs : List Value} {v : Value} (h : w.ownsRow B T 1 v n xs) (hb : ∀ k, v.ownBlock = some k → w'.heap[k]? = w.heap[k]?) : w'.ownsRow B T 1 v n xs := by
  refine ⟨h.1, ?_⟩
  rcases h.2 with h0 | ⟨g, cap, cur, hv, hbb, hg, r⟩
  · exact .inl h0
  · refine .inr ⟨g, cap, cur, hv, hbb, ?_, r⟩
    rw [hb g (by rw [hv]; rfl)]; exact hg
theorem own_mono {w : World} {B B' n : Nat} {T : TypeId} {xs : List Value} {v : Value} (h : w.ownsRow B T 1 v n xs) (hB : B' ≤ B) : w.ownsRow B' T 1 v n xs := by
  refine ⟨h.1, ?_⟩
  rcases h.2 with h0 | ⟨g, cap, cur, hv, hb, r⟩
  · exact .inl h0
  · exact .inr ⟨g, cap, cur, hv, by omega, r⟩
theorem own_lt {w : World} {B n : Nat} {T : TypeId} {xs : List Value} {v : Value} (h : w.ownsRow B T 1 v n xs) : ∀ k, v.ownBlock = some k → B ≤ k ∧ k < w.heap.size := fun k hk => World.ownsRow.lt h k hk
theorem wpList_append_t (w : World) {ops : Array Oper} {rest : List Oper} {o : Oper} {a : Act} {Q : Exit → Act → World → Prop} (hgd : o.guard = none) (s x : Operand)
    (ho : o.op = .call { callee := .builtin .append, args := #[s, x], argTypes := #[36, 36] })
    (B : Nat) (ts : List (List Nat)) (v : Value) (hs : a.eval s = v) (hown : TRow B ts v w) (k : Nat) (t : ByteArray) (y : List Nat) (hx : a.eval x = .slice (some ⟨k, 0, none⟩) 1 1) (hc : w.heap[k]? = some (.cells #[.string t] 9 (0, 0)))
    (hy : t = ⟨(tb y).toArray⟩) (hlen : ts.length ≤ 1000) (hB : B ≤ w.heap.size)
    (h : ∀ v' w', TRow B (ts ++ [y]) v' w' → w.grownBy w' v.ownBlock → (v'.ownBlock = v.ownBlock ∨ v'.ownBlock = some w.heap.size) → wpList Try.prog ops Q rest (a.put o.dst v') w') :
    wpList Try.prog ops Q (o :: rest) a w := by
  obtain ⟨i0, hi, hz0, hz1, hz2⟩ := info_parts (show (Try.prog.info? 9).map (fun i => (i.zero, i.size, i.bytes)) = some (some (.string ⟨#[]⟩), 1, 16) by kernel_rfl)
  refine wpList_append_own_at _ hgd s x 36 ho B 9 i0 (.string ⟨#[]⟩) 1 16 Try.underlying36 hi hz0 hz1 hz2 rfl (by decide) v ts.length (ts.map tV) hs hown ⟨k, 0, none⟩ 1 1 [.string t] hx rfl (World.news_of_block hc) ?_ (by unfold maxLen; omega) (by omega) hB ?_
  · intro u hu; simp at hu; subst hu; rfl
  · intro v' w' h1 hg _ hat
    refine h v' w' ?_ hg hat
    unfold TRow
    rw [List.length_append, List.length_singleton, List.map_append, List.map_singleton, tV, ← hy]
    exact h1
theorem wpList_append_n (w : World) {ops : Array Oper} {rest : List Oper} {o : Oper} {a : Act} {Q : Exit → Act → World → Prop} (hgd : o.guard = none) (s x : Operand)
    (ho : o.op = .call { callee := .builtin .append, args := #[s, x], argTypes := #[37, 37] })
    (B : Nat) (rs : List Nat) (v : Value) (hs : a.eval s = v) (hown : NRow B rs v w) (k : Nat) (r : Int) (y : Nat) (hx : a.eval x = .slice (some ⟨k, 0, none⟩) 1 1) (hc : w.heap[k]? = some (.cells #[.int .i64 r] 3 (0, 0)))
    (hy : r = (y : Nat)) (hlen : rs.length ≤ 1000) (hB : B ≤ w.heap.size)
    (h : ∀ v' w', NRow B (rs ++ [y]) v' w' → w.grownBy w' v.ownBlock → (v'.ownBlock = v.ownBlock ∨ v'.ownBlock = some w.heap.size) → wpList Try.prog ops Q rest (a.put o.dst v') w') :
    wpList Try.prog ops Q (o :: rest) a w := by
  obtain ⟨i0, hi, hz0, hz1, hz2⟩ := info_parts (show (Try.prog.info? 3).map (fun i => (i.zero, i.size, i.bytes)) = some (some (.int .i64 0), 1, 8) by kernel_rfl)
  refine wpList_append_own_at _ hgd s x 37 ho B 3 i0 (.int .i64 0) 1 8 Try.underlying37 hi hz0 hz1 hz2 rfl (by decide) v rs.length (rs.map nV) hs hown ⟨k, 0, none⟩ 1 1 [.int .i64 r] hx rfl (World.news_of_block hc) ?_ (by unfold maxLen; omega) (by omega) hB ?_
  · intro u hu; simp at hu; subst hu; rfl
  · intro v' w' h1 hg _ hat
    refine h v' w' ?_ hg hat
    unfold NRow
    rw [List.length_append, List.length_singleton, List.map_append, List.map_singleton, nV, ← hy]
    exact h1
/-- The texts and rests from place b of the queue on. -/
def LT (b : Nat) (S : QS) : List (List Nat) := (S.q.drop b).map (fun y => y.1)
def LR (b : Nat) (S : QS) : List Nat := (S.q.drop b).map (fun y => y.2)
theorem LT_len (b : Nat) (S : QS) : (LT b S).length = S.q.length - b := by simp [LT]
theorem LR_len (b : Nat) (S : QS) : (LR b S).length = S.q.length - b := by simp [LR]
theorem LT_get {b : Nat} {S : QS} {i : Nat} (h : b + i < S.q.length) : (LT b S).getD i [] = (S.q.getD (b + i) ([], 0)).1 := by
  rw [List.getD_eq_getElem?_getD, List.getD_eq_getElem?_getD, LT, List.getElem?_map, List.getElem?_drop, List.getElem?_eq_getElem h]; rfl
theorem LR_get {b : Nat} {S : QS} {i : Nat} (h : b + i < S.q.length) : (LR b S).getD i 0 = (S.q.getD (b + i) ([], 0)).2 := by
  rw [List.getD_eq_getElem?_getD, List.getD_eq_getElem?_getD, LR, List.getElem?_map, List.getElem?_drop, List.getElem?_eq_getElem h]; rfl
theorem LT_snoc {b : Nat} {S : QS} (h : b ≤ S.q.length) (y : List Nat × Nat) (m : Nat → Bool) : LT b ⟨S.q ++ [y], m⟩ = LT b S ++ [y.1] := by
  simp only [LT]; rw [List.drop_append_of_le_length h]; simp
theorem LR_snoc {b : Nat} {S : QS} (h : b ≤ S.q.length) (y : List Nat × Nat) (m : Nat → Bool) : LR b ⟨S.q ++ [y], m⟩ = LR b S ++ [y.2] := by
  simp only [LR]; rw [List.drop_append_of_le_length h]; simp
/-- The two slices that grow lie apart. -/
def Apart (v u : Value) : Prop := ∀ k, v.ownBlock = some k → u.ownBlock ≠ some k
theorem ext_one {ds : List Nat} {s : ByteArray} (hs : s = ⟨(tb ds).toArray⟩) (k : Nat) (h : k < s.size) : s.extract k (k + 1) = ⟨[dc (ds.getD k 0)].toArray⟩ := by
  subst hs
  have hk : k < ds.length := by rw [tb_sz] at h; exact h
  apply ByteArray.ext
  simp only [ByteArray.data_extract]
  apply Array.ext'
  simp [tb, List.getD_eq_getElem?_getD, List.getElem?_eq_getElem hk]
  rw [List.take_one, List.head?_drop]
  simp [List.getElem?_eq_getElem hk]
end Go.Proofs.Ytghjpanabphbpab
