/-
  Maps of tallies: in how many ways a number is made, and with how few signs.
-/
import Derived.Test.YtlgleghofiflaabSgRec
import Derived.Maps.OwnSet
namespace Go.Proofs.Ytlgleghofiflaab
open Go.RowKit

/-- How an element reads: two numbers. -/
def pairE : Value → Option (DataW Unit × List MemPlace)
  | .agg cs => match cs.toList with
    | [.int .i64 a, .int .i64 b] => some (.agg [.lit (.int .i64 a), .lit (.int .i64 b)], [])
    | _ => none
  | _ => none
def pd (p : Int × Int) : DataW Unit := .agg [.lit (.int .i64 p.1), .lit (.int .i64 p.2)]
def pv (p : Int × Int) : Value := .agg #[.int .i64 p.1, .int .i64 p.2]
theorem pairE_mk (p : Int × Int) : pairE (pv p) = some (pd p, []) := rfl
theorem pairE_inv {v : Value} {p : Int × Int} {ps : List MemPlace} (h : pairE v = some (pd p, ps)) : v = pv p := by
  unfold pairE at h
  split at h
  · rename_i cs
    split at h
    · rename_i a b e
      simp only [Option.some.injEq, Prod.mk.injEq, pd, DataW.agg.injEq, List.cons.injEq, DataW.lit.injEq, Lit.int.injEq] at h
      obtain ⟨⟨⟨_, h1⟩, ⟨_, h2⟩, _⟩, _⟩ := h
      subst h1; subst h2
      show Value.agg cs = Value.agg #[.int .i64 p.1, .int .i64 p.2]
      congr 1
      exact Array.ext' e
    · cases h
  · cases h
/-- The tally of a number. -/
def tlyS (x : Int) (o : Option (Int × Int)) (q : Sr) : Option (Int × Int) :=
  if q.1.val = x then (match o with | none => some (1, q.2) | some (c, m) => some (c + 1, if q.2 < m then q.2 else m)) else o
def tly (x : Int) (rs : List Sr) : Option (Int × Int) := rs.foldl (tlyS x) none
theorem tly_snoc (x : Int) (rs : List Sr) (q : Sr) : tly x (rs ++ [q]) = tlyS x (tly x rs) q := by simp [tly, List.foldl_append]
/-- The numbers that come, each once. -/
def keyS (l : List Int) (x : Int) : List Int := if l.contains x then l else l ++ [x]
def keysOf (rs : List Sr) : List Int := rs.foldl (fun l q => keyS l q.1.val) []
theorem keysOf_snoc (rs : List Sr) (q : Sr) : keysOf (rs ++ [q]) = keyS (keysOf rs) q.1.val := by simp [keysOf, List.foldl_append]
theorem rs_ind {P : List Sr → Prop} (h0 : P []) (h1 : ∀ l c, P l → P (l ++ [c])) (l : List Sr) : P l := by
  have : ∀ r : List Sr, P r.reverse := by
    intro r
    induction r with
    | nil => exact h0
    | cons c r ih => rw [List.reverse_cons]; exact h1 _ _ ih
  have := this l.reverse
  rwa [List.reverse_reverse] at this
theorem mem_keyS (l : List Int) (x y : Int) : y ∈ keyS l x ↔ y ∈ l ∨ y = x := by
  unfold keyS
  split
  · rename_i h
    constructor
    · exact .inl
    · rintro (h' | rfl)
      · exact h'
      · simpa using h
  · simp
theorem tly_some (x : Int) (rs : List Sr) : (tly x rs).isSome = (keysOf rs).contains x := by
  induction rs using rs_ind with
  | h0 => rfl
  | h1 l q ih =>
    rw [tly_snoc, keysOf_snoc, Bool.eq_iff_iff]
    simp only [List.contains_iff_mem, mem_keyS]
    unfold tlyS
    rw [Bool.eq_iff_iff, List.contains_iff_mem] at ih
    by_cases h : q.1.val = x
    · rw [if_pos h]
      cases tly x l with
      | none => simp [h]
      | some p => simp [h]
    · rw [if_neg h, ih]
      constructor
      · exact .inl
      · rintro (h' | h')
        · exact h'
        · exact absurd h'.symm h
/-- The map in block b holds the tallies of these reckonings. -/
def TalD (rs : List Sr) (D : DataW Unit) : Prop := (∀ x, Maps.has D (.int .i64 x) = (tly x rs).isSome ∧ D.atKey (.int .i64 x) (pd (0, 0)) = pd ((tly x rs).getD (0, 0))) ∧ Maps.size D = (keysOf rs).length
def Tal (w : World) (b n : Nat) (rs : List Sr) : Prop := ∃ D : DataW Unit, w.ownsMap Try.prog 3 pairE b n D ∧ TalD rs D
theorem keyed : Go.Maps.Keyed Try.prog 3 := Go.Maps.int_keyed Try.underlying3
theorem talD_nil : TalD [] (.map []) := ⟨fun _ => ⟨rfl, rfl⟩, rfl⟩
theorem Tal.made (w : World) : Tal (w.alloc (.map #[] 0)) w.heap.size 0 [] := ⟨_, World.ownsMap_made w _ _ _, talD_nil⟩
theorem Tal.below {w w' : World} {b n : Nat} {rs : List Sr} (h : Tal w b n rs) (k : Below w.heap.size w w') : Tal w' b n rs := by
  obtain ⟨D, h1, h2⟩ := h
  exact ⟨D, h1.kept (row := none) ⟨k.os, k.tape, k.output, k.size, fun i hi _ => k.block i hi⟩ (by simp), h2⟩
theorem Tal.setCell {w : World} {b n : Nat} {rs : List Sr} (h : Tal w b n rs) {a : Addr} (ha : b ≠ a.block) (u : Value) : Tal (w.setCell a u) b n rs := by
  obtain ⟨D, h1, h2⟩ := h
  exact ⟨D, h1.setCell ha u, h2⟩
theorem Tal.lt {w : World} {b n : Nat} {rs : List Sr} (h : Tal w b n rs) : b < w.heap.size := by obtain ⟨D, h1, _⟩ := h; exact h1.lt
theorem keylit (x : Int) : WideAt.IsKeyLit (Lit.int .i64 x) := (trivial : WideAt.IsKeyLit (Lit.int .i64 x))
theorem talD_put {rs : List Sr} {D : DataW Unit} (h : TalD rs D) (ht : Maps.Tidy D) (q : Sr) : TalD (rs ++ [q]) (D.put (.int .i64 q.1.val) (pd ((tly q.1.val (rs ++ [q])).getD (0, 0)))) := by
  refine ⟨fun x => ?_, ?_⟩
  · by_cases e : x = q.1.val
    · subst e
      refine ⟨?_, ?_⟩
      · rw [Maps.has_put_same ht.isMap (keylit _), tly_snoc]
        unfold tlyS; rw [if_pos rfl]
        cases tly q.1.val rs with
        | none => rfl
        | some p => rfl
      · rw [Maps.atKey_put_same ht.isMap (keylit _)]
    · have hne : (Lit.int .i64 x) ≠ (Lit.int .i64 q.1.val) := by intro h'; cases h'; exact e rfl
      have e2 : tly x (rs ++ [q]) = tly x rs := by rw [tly_snoc]; unfold tlyS; rw [if_neg (fun h' => e h'.symm)]
      rw [Maps.has_put_other hne, Maps.atKey_put_other hne, e2]
      exact h.1 x
  · rw [Maps.size_put ht, (h.1 q.1.val).1, tly_some, keysOf_snoc, h.2]
    unfold keyS
    cases (keysOf rs).contains q.1.val with
    | true => simp
    | false => simp
theorem zeroT (w : World) : (zeroValue 40).run Try.prog w = .ok (pv (0, 0)) w := by kernel_rfl
theorem look_ok (w : World) {ops : Array Oper} {rest : List Oper} {o : Oper} {a : Act} {Q : Exit → Act → World → Prop} (hg : o.guard = none) (m x : Operand) (hop : o.op = Op.lookup 37 m x true)
    (b n : Nat) (rs : List Sr) (hm : a.eval m = .map (some b)) (hown : Tal w b n rs) (k : Int) (hx : a.eval x = .int .i64 k) (hk : (Lit.int .i64 k).wf = true)
    (hK : wpList Try.prog ops Q rest (a.put o.dst (.tuple #[.agg #[.int .i64 ((tly k rs).getD (0, 0)).1, .int .i64 ((tly k rs).getD (0, 0)).2], .bool (tly k rs).isSome])) w) :
    wpList Try.prog ops Q (o :: rest) a w := by
  obtain ⟨D, h1, h2⟩ := hown
  refine wpList_lookup_own_ok w hg m x 37 hop 3 40 keyed Try.underlying37 pairE (zeroT w) (pd (0, 0)) [] (pairE_mk (0, 0)) b n D hm h1 _ (.int .i64 k) hx (Go.Maps.keyOf_int_mk Try.underlying3 hk) ?_
  intro v ps hv
  rw [(h2.1 k).2] at hv
  rw [pairE_inv hv, (h2.1 k).1]
  exact hK
theorem look_no (w : World) {ops : Array Oper} {rest : List Oper} {o : Oper} {a : Act} {Q : Exit → Act → World → Prop} (hg : o.guard = none) (m x : Operand) (hop : o.op = Op.lookup 37 m x false)
    (b n : Nat) (rs : List Sr) (hm : a.eval m = .map (some b)) (hown : Tal w b n rs) (k : Int) (hx : a.eval x = .int .i64 k) (hk : (Lit.int .i64 k).wf = true)
    (hK : wpList Try.prog ops Q rest (a.put o.dst (.agg #[.int .i64 ((tly k rs).getD (0, 0)).1, .int .i64 ((tly k rs).getD (0, 0)).2])) w) :
    wpList Try.prog ops Q (o :: rest) a w := by
  obtain ⟨D, h1, h2⟩ := hown
  refine wpList_plain hg fun K' hK' => ?_
  obtain ⟨v, ps, hrun, hv⟩ := h1.lookup keyed Try.underlying37 (zeroT w) (pairE_mk (0, 0)) (Go.Maps.keyOf_int_mk Try.underlying3 hk)
  rw [(h2.1 k).2] at hv
  rw [pairE_inv hv] at hrun
  unfold Oper.wp
  simp [execOp, hop, hm, hx, hrun, Result.andThen]
  exact hK' _ _ hK
theorem look_none (w : World) {ops : Array Oper} {rest : List Oper} {o : Oper} {a : Act} {Q : Exit → Act → World → Prop} (hg : o.guard = none) (m x : Operand) (hop : o.op = Op.lookup 37 m x true)
    (b n : Nat) (rs : List Sr) (hm : a.eval m = .map (some b)) (hown : Tal w b n rs) (k : Int) (ho : tly k rs = none) (hx : a.eval x = .int .i64 k) (hk : (Lit.int .i64 k).wf = true)
    (hK : wpList Try.prog ops Q rest (a.put o.dst (.tuple #[.agg #[.int .i64 0, .int .i64 0], .bool false])) w) :
    wpList Try.prog ops Q (o :: rest) a w :=
  look_ok w hg m x hop b n rs hm hown k hx hk (by rw [ho]; exact hK)
theorem look_some (w : World) {ops : Array Oper} {rest : List Oper} {o : Oper} {a : Act} {Q : Exit → Act → World → Prop} (hg : o.guard = none) (m x : Operand) (hop : o.op = Op.lookup 37 m x true)
    (b n : Nat) (rs : List Sr) (hm : a.eval m = .map (some b)) (hown : Tal w b n rs) (k c d : Int) (ho : tly k rs = some (c, d)) (hx : a.eval x = .int .i64 k) (hk : (Lit.int .i64 k).wf = true)
    (hK : wpList Try.prog ops Q rest (a.put o.dst (.tuple #[.agg #[.int .i64 c, .int .i64 d], .bool true])) w) :
    wpList Try.prog ops Q (o :: rest) a w :=
  look_ok w hg m x hop b n rs hm hown k hx hk (by rw [ho]; exact hK)
theorem put_tal (w : World) {ops : Array Oper} {rest : List Oper} {o : Oper} {a : Act} {Q : Exit → Act → World → Prop} (hg : o.guard = none) (m x v : Operand) (hop : o.op = Op.mapUpdate 37 m x v)
    (b n : Nat) (rs : List Sr) (hm : a.eval m = .map (some b)) (hown : Tal w b n rs) (hn : n ≤ 1000000) (q : Sr) (k : Int) (hkq : q.1.val = k) (hx : a.eval x = .int .i64 k) (hk : (Lit.int .i64 k).wf = true)
    (c d : Int) (hv : a.eval v = .agg #[.int .i64 c, .int .i64 d]) (hcd : (tly k (rs ++ [q])).getD (0, 0) = (c, d))
    (hK : ∀ w', Tal w' b (n + 1) (rs ++ [q]) → w.grownBy w' (some b) → wpList Try.prog ops Q rest (a.put o.dst undef) w') :
    wpList Try.prog ops Q (o :: rest) a w := by
  obtain ⟨D, h1, h2⟩ := hown
  subst hkq
  refine wpList_mapUpdate_own w hg m x v 37 hop 3 40 keyed Try.underlying37 pairE b n D hm h1 (by unfold maxLen; omega) _ _ (.int .i64 q.1.val) hx hv (Go.Maps.keyOf_int_mk Try.underlying3 hk) (pd (c, d)) [] rfl ?_
  intro w' g1 g2
  refine hK w' ⟨_, g1, ?_⟩ g2
  rw [← hcd]
  exact talD_put h2 (h1.tidy keyed) q
theorem tal_len {w : World} {b n : Nat} {rs : List Sr} (h : Tal w b n rs) (ty : TypeId) : (Builtin.len_ #[37] ty #[.map (some b)]).run Try.prog w = .ok (.int .i64 (keysOf rs).length) w := by
  obtain ⟨D, h1, h2⟩ := h
  rw [h1.len Try.underlying37 ty, h2.2]
end Go.Proofs.Ytlgleghofiflaab
