/-
  Least numbers: the program's queue of texts and rests; a row of signs that were met.
-/
import Derived.Test.YtghjpanabphbpabLeLeaf
import Derived.Test.YtghjpanabphbpabLeBf
import Derived.Test.YtghjpanabphbpabDiDm
import Derived.Maps.AppendAt
import Derived.Deep.OwnRows
import Derived.Deep.AppendLies
import Derived.Deep.LoopGhost
import Derived.Deep.WholeRow
import Derived.Laws.RangeString
namespace Go.Proofs.Ytghjpanabphbpab
open Go.RowKit
set_option maxRecDepth 100000

/-- The digits as signs. -/
def tb (l : List Nat) : List UInt8 := l.map dc
theorem tb_len (l : List Nat) : (tb l).length = l.length := by simp [tb]
theorem tb_snoc (l : List Nat) (d : Nat) : tb (l ++ [d]) = tb l ++ [dc d] := by simp [tb]
theorem tb_sz (l : List Nat) : (⟨(tb l).toArray⟩ : ByteArray).size = l.length := by simp [ByteArray.size, tb]
theorem enc_dig (d : Nat) (h : d ≤ 9) : Utf8.encode (48 + (d : Int)) = ⟨[dc d].toArray⟩ := by
  have : d = 0 ∨ d = 1 ∨ d = 2 ∨ d = 3 ∨ d = 4 ∨ d = 5 ∨ d = 6 ∨ d = 7 ∨ d = 8 ∨ d = 9 := by omega
  rcases this with h | h | h | h | h | h | h | h | h | h <;> subst h <;> rfl
theorem tb_cat (l : List Nat) (d : Nat) : (⟨(tb l).toArray⟩ : ByteArray) ++ ⟨[dc d].toArray⟩ = ⟨(tb (l ++ [d])).toArray⟩ := by
  rw [tb_snoc]; exact str_two _ _
/-- The rows of the queue, one behind the other. -/
def flat : List (List Nat × Nat) → List Value
  | [] => []
  | x :: q => .string ⟨(tb x.1).toArray⟩ :: .int .i64 (x.2 : Nat) :: flat q
theorem flat_len (q : List (List Nat × Nat)) : (flat q).length = q.length * 2 := by
  induction q with
  | nil => rfl
  | cons x q ih => simp [flat, ih]; omega
theorem flat_snoc (q : List (List Nat × Nat)) (x : List Nat × Nat) : flat (q ++ [x]) = flat q ++ [.string ⟨(tb x.1).toArray⟩, .int .i64 (x.2 : Nat)] := by
  induction q with
  | nil => rfl
  | cons y q ih => simp [flat, ih]
theorem flat_0 (q : List (List Nat × Nat)) : ∀ i, i < q.length → (flat q)[2 * i]? = some (.string ⟨(tb (q.getD i ([], 0)).1).toArray⟩) := by
  induction q with
  | nil => intro i h; simp at h
  | cons x q ih =>
    intro i h
    cases i with
    | zero => rfl
    | succ i =>
      have := ih i (by simpa using h)
      rw [show 2 * (i + 1) = 2 * i + 1 + 1 by omega]
      simp only [flat, List.getElem?_cons_succ, List.getD_cons_succ]
      exact this
theorem flat_1 (q : List (List Nat × Nat)) : ∀ i, i < q.length → (flat q)[2 * i + 1]? = some (.int .i64 ((q.getD i ([], 0)).2 : Nat)) := by
  induction q with
  | nil => intro i h; simp at h
  | cons x q ih =>
    intro i h
    cases i with
    | zero => rfl
    | succ i =>
      have := ih i (by simpa using h)
      rw [show 2 * (i + 1) + 1 = (2 * i + 1) + 1 + 1 by omega]
      simp only [flat, List.getElem?_cons_succ, List.getD_cons_succ]
      exact this
/-- The queue, in a row of the call's own. -/
def Que (B : Nat) (q : List (List Nat × Nat)) (v : Value) (w : World) : Prop := w.ownsRow B 40 2 v q.length (flat q)
theorem Que.form {B : Nat} {q : List (List Nat × Nat)} {v : Value} {w : World} (h : Que B q v w) (h0 : 0 < q.length) :
    ∃ g cap, v = .slice (some ⟨g, 0, none⟩) q.length cap ∧ B ≤ g ∧ g < w.heap.size ∧ (∀ i, i < q.length → w.cell? ⟨g, 2 * i, none⟩ = some (.string ⟨(tb (q.getD i ([], 0)).1).toArray⟩)) ∧ (∀ i, i < q.length → w.cell? ⟨g, 2 * i + 1, none⟩ = some (.int .i64 ((q.getD i ([], 0)).2 : Nat))) := by
  have h' := h
  rcases h.2 with ⟨hv, hn⟩ | ⟨g, cap, cur, hv, hb, hg, _⟩
  · omega
  · refine ⟨g, cap, hv, hb, (Array.getElem?_eq_some_iff.1 hg).1, fun i hi => ?_, fun i hi => ?_⟩
    · unfold Que at h'
      rw [hv] at h'
      rw [h'.cellAt (2 * i) (by omega)]
      exact flat_0 q i hi
    · unfold Que at h'
      rw [hv] at h'
      rw [h'.cellAt (2 * i + 1) (by omega)]
      exact flat_1 q i hi
theorem Que.kept {B : Nat} {q : List (List Nat × Nat)} {v : Value} {w w' : World} {row : Option Nat} (h : Que B q v w) (hg : w.grownBy w' row) (hne : v.ownBlock ≠ row) : Que B q v w' := World.ownsRow.kept h hg (.inr hne)
theorem Que.lt {B : Nat} {q : List (List Nat × Nat)} {v : Value} {w : World} (h : Que B q v w) : ∀ k, v.ownBlock = some k → B ≤ k ∧ k < w.heap.size := fun k hk => World.ownsRow.lt h k hk
theorem grown_set {w : World} {b : Nat} (i : Nat) (v : Value) : w.grownBy (w.setCell ⟨b, i, none⟩ v) (some b) :=
  ⟨rfl, rfl, rfl, by simp [World.setCell], fun k hk hne => Below.heap_setCell w ⟨b, i, none⟩ v k (fun e => hne (by rw [e]))⟩
theorem grown_trans {w a b : World} {row : Option Nat} (h : w.grownBy a row) (g : a.grownBy b row) : w.grownBy b row :=
  ⟨g.os.trans h.os, g.tape.trans h.tape, g.output.trans h.output, Nat.le_trans h.size g.size, fun k hk hne => (g.block k (Nat.lt_of_lt_of_le hk h.size) hne).trans (h.block k hk hne)⟩
/-- append of one text and rest. -/
theorem wpList_append_begun (w : World) {ops : Array Oper} {rest : List Oper} {o : Oper} {a : Act} {Q : Exit → Act → World → Prop} (hgd : o.guard = none) (s x : Operand)
    (ho : o.op = .call { callee := .builtin .append, args := #[s, x], argTypes := #[41, 41] })
    (B : Nat) (q : List (List Nat × Nat)) (v : Value) (hs : a.eval s = v) (hown : Que B q v w) (k : Nat) (t : ByteArray) (r : Int) (y : List Nat × Nat) (hx : a.eval x = .slice (some ⟨k, 0, none⟩) 1 1) (hc : w.heap[k]? = some (.cells #[.string t, .int .i64 r] 40 (0, 0)))
    (hy1 : t = ⟨(tb y.1).toArray⟩) (hy2 : r = (y.2 : Nat)) (hlen : q.length ≤ 1000) (hB : B ≤ w.heap.size)
    (h : ∀ v' w', Que B (q ++ [y]) v' w' → w.grownBy w' v.ownBlock → (v'.ownBlock = v.ownBlock ∨ v'.ownBlock = some w.heap.size) → wpList Try.prog ops Q rest (a.put o.dst v') w') :
    wpList Try.prog ops Q (o :: rest) a w := by
  obtain ⟨i0, hi, hz0, hz1, hz2⟩ := info_parts (show (Try.prog.info? 40).map (fun i => (i.zero, i.size, i.bytes)) = some (some (.agg #[.string ⟨#[]⟩, .int .i64 0]), 2, 24) by kernel_rfl)
  refine wpList_append_own_at _ hgd s x 41 ho B 40 i0 (.agg #[.string ⟨#[]⟩, .int .i64 0]) 2 24 Try.underlying41 hi hz0 hz1 hz2 (by simp [Value.cells]) (by decide) v q.length (flat q) hs hown ⟨k, 0, none⟩ 1 1 [.string t, .int .i64 r] hx rfl (World.news_of_block hc) ?_ (by unfold maxLen; omega) (by omega) hB ?_
  · intro u hu; simp at hu; rcases hu with rfl | rfl <;> rfl
  · intro v' w' h1 hg _ hat
    refine h v' w' ?_ hg hat
    unfold Que
    rw [flat_snoc, List.length_append, List.length_singleton, ← hy1, ← hy2]
    exact h1
/-- A row of signs. -/
def BRow (w : World) (g n : Nat) (f : Nat → Bool) : Prop := w.rowIs g 4 n (fun j => .bool (f j))
theorem BRow.cell {w : World} {g n : Nat} {f : Nat → Bool} (h : BRow w g n f) {i : Nat} (hi : i < n) : w.cell? ⟨g, i, none⟩ = some (.bool (f i)) := World.rowIs.cell h hi
theorem BRow.frozen {w : World} {g n : Nat} {f : Nat → Bool} (h : BRow w g n f) (i : Nat) : w.frozen? ⟨g, i, none⟩ = false := World.rowIs.frozen h i
theorem BRow.lt {w : World} {g n : Nat} {f : Nat → Bool} (h : BRow w g n f) : g < w.heap.size := World.rowIs.lt h
theorem BRow.kept {w w' : World} {g n : Nat} {f : Nat → Bool} {row : Option Nat} (h : BRow w g n f) (k : w.grownBy w' row) (hg : some g ≠ row) : BRow w' g n f := World.rowIs.of_block h (k.block g h.lt hg)
theorem BRow.below {w w' : World} {g n : Nat} {f : Nat → Bool} (h : BRow w g n f) (k : Below w.heap.size w w') : BRow w' g n f := World.rowIs.of_block h (k.block g h.lt)
theorem BRow.put {w : World} {g n : Nat} {f f' : Nat → Bool} (h : BRow w g n f) (i : Nat) (x : Bool) (hf : ∀ j, f' j = if j = i then x else f j) : BRow (w.setCell ⟨g, i, none⟩ (.bool x)) g n f' :=
  World.rowIs.congr (World.rowIs.set h i (.bool x)) fun j _ => by rw [hf j]; split <;> rfl
theorem BRow.made (w : World) (n : Nat) : BRow (w.alloc (.cells (madeCells #[.bool false] n) 4)) w.heap.size n (fun _ => false) := World.rowIs_made w (.bool false) n 4
theorem wpList_make_rowB {P : Program} (w : World) {ops : Array Oper} {rest : List Oper} {o : Oper} {a : Act} {Q : Exit → Act → World → Prop}
    (hg : o.guard = none) (l c : Operand) (t : TypeId) (hop : o.op = Op.makeSlice t l c)
    (e : TypeId) (i : TypeInfo) (z : Value) (ht : P.underlying t = some (.slice e)) (hi : P.info? e = some i) (hz : i.zero = some z) (hsize : i.size = 1) (hz1 : z.cells = #[z])
    (kl kc : IntKind) (L C : Int) (n : Nat) (hl : a.eval l = .int kl L) (hc : a.eval c = .int kc C) (hL : L = (n : Int)) (hC : C = (n : Int)) (hbytes : i.bytes * n ≤ 281474976710656) (h63 : n ≤ 9223372036854775807)
    (hK : wpList P ops Q rest (a.put o.dst (.slice (some ⟨w.heap.size, 0, none⟩) n n)) (w.alloc (.cells (madeCells #[z] n) e))) :
    wpList P ops Q (o :: rest) a w := by
  subst hL; subst hC
  exact wpList_make_row w hg l c t hop e i z ht hi hz hsize hz1 kl kc n hl hc hbytes h63 hK
/-- One step of a range over a text of plain signs, wherever its iterator lies. -/
theorem run_next_at (w : World) (r : Nat) (s : ByteArray) (pos : Nat) (ty : TypeId) (hr : w.heap[r]? = some (.stringIter s pos)) (h : pos < s.size) (ha : (s[pos]'h).toNat < 128) :
    ∃ w', (Instr.next (.pointer (some ⟨r, 0, none⟩)) true ty).run Try.prog w = .ok (.tuple #[.bool true, .int .i64 pos, .int .i32 (s[pos]'h).toNat]) w' ∧ w'.heap[r]? = some (.stringIter s (pos + 1)) ∧ w.grownBy w' (some r) ∧ w'.heap.size = w.heap.size := by
  have hlt : r < w.heap.size := (Array.getElem?_eq_some_iff.1 hr).1
  refine ⟨{ w with heap := w.heap.setIfInBounds r (.stringIter s (pos + 1)) }, ?_, ?_, ⟨rfl, rfl, rfl, by simp, fun k hk hne => ?_⟩, by simp⟩
  · simp only [Instr.next, getObj, setObj, Sem.run_bind, Sem.run, hr, Result.andThen, h, if_true, decode_ascii s pos h ha]
    simp [goInt]
  · simp [hlt]
  · have : r ≠ k := fun e => hne (by rw [e])
    simp [this]
theorem run_next_done (w : World) (r : Nat) (s : ByteArray) (pos : Nat) (ty : TypeId) (hr : w.heap[r]? = some (.stringIter s pos)) (h : ¬ pos < s.size) :
    (Instr.next (.pointer (some ⟨r, 0, none⟩)) true ty).run Try.prog w = .ok (.tuple #[.bool false]) w := by
  simp [Instr.next, getObj, Sem.run, hr, h]
theorem wpList_next_str (w : World) {ops : Array Oper} {rest : List Oper} {o : Oper} {a : Act} {Q : Exit → Act → World → Prop} (hg : o.guard = none) (it : Operand) (hop : o.op = Op.next it true) (r : Nat) (s : ByteArray) (pos : Nat)
    (hit : a.eval it = .pointer (some ⟨r, 0, none⟩)) (hr : w.heap[r]? = some (.stringIter s pos)) (h : pos < s.size) (ha : (s[pos]'h).toNat < 128)
    (hK : ∀ w', w'.heap[r]? = some (.stringIter s (pos + 1)) → w.grownBy w' (some r) → w'.heap.size = w.heap.size → wpList Try.prog ops Q rest (a.put o.dst (.tuple #[.bool true, .int .i64 pos, .int .i32 (s[pos]'h).toNat])) w') :
    wpList Try.prog ops Q (o :: rest) a w := by
  refine wpList_plain hg fun K' hK' => ?_
  obtain ⟨w', hrun, h1, h2, h3⟩ := run_next_at w r s pos o.type hr h ha
  unfold Oper.wp
  simp [execOp, hop, hit, hrun, Result.andThen]
  exact hK' _ _ (hK w' h1 h2 h3)
theorem wpList_next_end (w : World) {ops : Array Oper} {rest : List Oper} {o : Oper} {a : Act} {Q : Exit → Act → World → Prop} (hg : o.guard = none) (it : Operand) (hop : o.op = Op.next it true) (r : Nat) (s : ByteArray) (pos : Nat)
    (hit : a.eval it = .pointer (some ⟨r, 0, none⟩)) (hr : w.heap[r]? = some (.stringIter s pos)) (h : ¬ pos < s.size)
    (hK : wpList Try.prog ops Q rest (a.put o.dst (.tuple #[.bool false])) w) :
    wpList Try.prog ops Q (o :: rest) a w := by
  refine wpList_plain hg fun K' hK' => ?_
  unfold Oper.wp
  simp [execOp, hop, hit, run_next_done w r s pos o.type hr h, Result.andThen]
  exact hK' _ _ hK
end Go.Proofs.Ytghjpanabphbpab
