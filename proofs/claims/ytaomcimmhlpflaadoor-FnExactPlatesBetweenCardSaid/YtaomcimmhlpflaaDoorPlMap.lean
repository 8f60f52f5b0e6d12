/-
  Maps whose keys are texts: sets, and numbers.
-/
import Derived.Test.YtaomcimmhlpflaaDoorPlStrs
import Derived.Maps.OwnSet
import Derived.Maps.RangeWalk
import Derived.Sort.KeysCollected
namespace Go.Proofs.YtaomcimmhlpflaaDoor
open Go.RowKit

/-- How an element reads. -/
def boolR : Value → Option (DataW Unit × List MemPlace)
  | .bool x => some (.lit (.bool x), [])
  | _ => none
def intR : Value → Option (DataW Unit × List MemPlace)
  | .int .i64 x => some (.lit (.int .i64 x), [])
  | _ => none
theorem boolR_inv {v : Value} {x : Bool} {ps : List MemPlace} (h : boolR v = some (.lit (.bool x), ps)) : v = .bool x := by
  unfold boolR at h
  split at h
  · simp only [Option.some.injEq, Prod.mk.injEq, DataW.lit.injEq, Lit.bool.injEq] at h; rw [h.1]
  · cases h
theorem intR_inv {v : Value} {x : Int} {ps : List MemPlace} (h : intR v = some (.lit (.int .i64 x), ps)) : v = .int .i64 x := by
  unfold intR at h
  split at h
  · simp only [Option.some.injEq, Prod.mk.injEq, DataW.lit.injEq, Lit.int.injEq] at h; rw [h.1.2]
  · cases h
theorem keyedS : Go.Maps.Keyed Tryd.prog 9 := Go.Maps.string_keyed Tryd.underlying9
theorem keylitS (x : List UInt8) : WideAt.IsKeyLit (Lit.string x) := (trivial : WideAt.IsKeyLit (Lit.string x))
theorem keyOfS (s : ByteArray) (h : s.size ≤ maxLen) : keyOf Tryd.prog 9 (.string s) = some (.string s.data.toList) := by
  simp [keyOf, mapKey, Tryd.underlying9, h]
/-- The set of the texts that are keys, all of them true. -/
def SetD (K : List UInt8 → Bool) (D : DataW Unit) : Prop := ∀ t, Maps.has D (.string t) = K t ∧ D.atKey (.string t) (.lit (.bool false)) = .lit (.bool (K t))
def SetM (w : World) (b n : Nat) (K : List UInt8 → Bool) : Prop := ∃ D : DataW Unit, w.ownsMap Tryd.prog 9 boolR b n D ∧ SetD K D
/-- Numbers by texts. -/
def NumD (K : List UInt8 → Bool) (f : List UInt8 → Int) (D : DataW Unit) : Prop := ∀ t, Maps.has D (.string t) = K t ∧ D.atKey (.string t) (.lit (.int .i64 0)) = .lit (.int .i64 (if K t = true then f t else 0))
def NumM (w : World) (b n : Nat) (K : List UInt8 → Bool) (f : List UInt8 → Int) : Prop := ∃ D : DataW Unit, w.ownsMap Tryd.prog 9 intR b n D ∧ NumD K f D
theorem SetD.none : SetD (fun _ => false) (.map []) := fun _ => ⟨rfl, rfl⟩
theorem NumD.none (f : List UInt8 → Int) : NumD (fun _ => false) f (.map []) := fun _ => ⟨rfl, rfl⟩
theorem SetM.lt {w : World} {b n : Nat} {K : List UInt8 → Bool} (h : SetM w b n K) : b < w.heap.size := by obtain ⟨D, h1, _⟩ := h; exact h1.lt
theorem NumM.lt {w : World} {b n : Nat} {K : List UInt8 → Bool} {f : List UInt8 → Int} (h : NumM w b n K f) : b < w.heap.size := by obtain ⟨D, h1, _⟩ := h; exact h1.lt
theorem SetM.made (w : World) : SetM (w.alloc (.map #[] 0)) w.heap.size 0 (fun _ => false) := ⟨_, World.ownsMap_made w _ _ _, SetD.none⟩
theorem NumM.made (w : World) (f : List UInt8 → Int) : NumM (w.alloc (.map #[] 0)) w.heap.size 0 (fun _ => false) f := ⟨_, World.ownsMap_made w _ _ _, NumD.none f⟩
theorem SetM.grown {w w' : World} {b n : Nat} {K : List UInt8 → Bool} (h : SetM w b n K) {row : Option Nat} (k : w.grownBy w' row) (hne : some b ≠ row) : SetM w' b n K := by
  obtain ⟨D, h1, h2⟩ := h; exact ⟨D, h1.kept k hne, h2⟩
theorem NumM.grown {w w' : World} {b n : Nat} {K : List UInt8 → Bool} {f : List UInt8 → Int} (h : NumM w b n K f) {row : Option Nat} (k : w.grownBy w' row) (hne : some b ≠ row) : NumM w' b n K f := by
  obtain ⟨D, h1, h2⟩ := h; exact ⟨D, h1.kept k hne, h2⟩
theorem below_gb {w w' : World} (k : Below w.heap.size w w') : w.grownBy w' none := ⟨k.os, k.tape, k.output, k.size, fun i hi _ => k.block i hi⟩
theorem SetM.below {w w' : World} {b n : Nat} {K : List UInt8 → Bool} (h : SetM w b n K) (k : Below w.heap.size w w') : SetM w' b n K := h.grown (below_gb k) (by simp)
theorem NumM.below {w w' : World} {b n : Nat} {K : List UInt8 → Bool} {f : List UInt8 → Int} (h : NumM w b n K f) (k : Below w.heap.size w w') : NumM w' b n K f := h.grown (below_gb k) (by simp)
theorem SetM.congr {w : World} {b n : Nat} {K K' : List UInt8 → Bool} (h : SetM w b n K) (e : ∀ t, K t = K' t) : SetM w b n K' := by
  rw [← show K = K' from funext e]; exact h
theorem SetD.put {K : List UInt8 → Bool} {D : DataW Unit} (h : SetD K D) (ht : Maps.IsMap D) (x : List UInt8) : SetD (fun t => K t || decide (t = x)) (D.put (.string x) (.lit (.bool true))) := by
  intro t
  by_cases e : t = x
  · subst e
    exact ⟨by rw [Maps.has_put_same ht (keylitS _)]; simp, by rw [Maps.atKey_put_same ht (keylitS _)]; simp⟩
  · have hne : (Lit.string t) ≠ (Lit.string x) := by intro h'; cases h'; exact e rfl
    rw [Maps.has_put_other hne, Maps.atKey_put_other hne]
    simpa [e] using h t
theorem NumD.put {K : List UInt8 → Bool} {f : List UInt8 → Int} {D : DataW Unit} (h : NumD K f D) (ht : Maps.IsMap D) (x : List UInt8) : NumD (fun t => K t || decide (t = x)) f (D.put (.string x) (.lit (.int .i64 (f x)))) := by
  intro t
  by_cases e : t = x
  · subst e
    exact ⟨by rw [Maps.has_put_same ht (keylitS _)]; simp, by rw [Maps.atKey_put_same ht (keylitS _)]; simp⟩
  · have hne : (Lit.string t) ≠ (Lit.string x) := by intro h'; cases h'; exact e rfl
    rw [Maps.has_put_other hne, Maps.atKey_put_other hne]
    simpa [e] using h t
theorem zeroBoolS (w : World) : (zeroValue 4).run Tryd.prog w = .ok (.bool false) w := by kernel_rfl
theorem zeroIntS (w : World) : (zeroValue 3).run Tryd.prog w = .ok (.int .i64 0) w := by kernel_rfl
theorem look_set (w : World) {ops : Array Oper} {rest : List Oper} {o : Oper} {a : Act} {Q : Exit → Act → World → Prop} (hg : o.guard = none) (m x : Operand) (hop : o.op = Op.lookup 55 m x false)
    (b n : Nat) (K : List UInt8 → Bool) (hm : a.eval m = .map (some b)) (hown : SetM w b n K) (s : ByteArray) (hx : a.eval x = .string s) (hs : s.size ≤ maxLen) (r : Bool) (hr : K s.data.toList = r)
    (hK : wpList Tryd.prog ops Q rest (a.put o.dst (.bool r)) w) :
    wpList Tryd.prog ops Q (o :: rest) a w := by
  subst hr
  obtain ⟨D, h1, h2⟩ := hown
  refine wpList_plain hg fun K' hK' => ?_
  obtain ⟨v, ps, hrun, hv⟩ := h1.lookup keyedS Tryd.underlying55 (zeroBoolS w) (show boolR (.bool false) = some (.lit (.bool false), []) from rfl) (keyOfS s hs)
  rw [(h2 _).2] at hv
  rw [boolR_inv hv] at hrun
  unfold Oper.wp
  simp [execOp, hop, hm, hx, hrun, Result.andThen]
  exact hK' _ _ hK
theorem look_num (w : World) {ops : Array Oper} {rest : List Oper} {o : Oper} {a : Act} {Q : Exit → Act → World → Prop} (hg : o.guard = none) (m x : Operand) (hop : o.op = Op.lookup 96 m x false)
    (b n : Nat) (K : List UInt8 → Bool) (f : List UInt8 → Int) (hm : a.eval m = .map (some b)) (hown : NumM w b n K f) (s : ByteArray) (hx : a.eval x = .string s) (hs : s.size ≤ maxLen) (hin : K s.data.toList = true) (r : Int) (hr : f s.data.toList = r)
    (hK : wpList Tryd.prog ops Q rest (a.put o.dst (.int .i64 r)) w) :
    wpList Tryd.prog ops Q (o :: rest) a w := by
  subst hr
  obtain ⟨D, h1, h2⟩ := hown
  refine wpList_plain hg fun K' hK' => ?_
  obtain ⟨v, ps, hrun, hv⟩ := h1.lookup keyedS Tryd.underlying96 (zeroIntS w) (show intR (.int .i64 0) = some (.lit (.int .i64 0), []) from rfl) (keyOfS s hs)
  rw [(h2 _).2, if_pos hin] at hv
  rw [intR_inv hv] at hrun
  unfold Oper.wp
  simp [execOp, hop, hm, hx, hrun, Result.andThen]
  exact hK' _ _ hK
theorem put_set (w : World) {ops : Array Oper} {rest : List Oper} {o : Oper} {a : Act} {Q : Exit → Act → World → Prop} (hg : o.guard = none) (m x v : Operand) (hop : o.op = Op.mapUpdate 55 m x v)
    (b n : Nat) (K : List UInt8 → Bool) (hm : a.eval m = .map (some b)) (hown : SetM w b n K) (hn : n ≤ 1000000) (s : ByteArray) (hx : a.eval x = .string s) (hs : s.size ≤ maxLen) (hv : a.eval v = .bool true)
    (hK : ∀ w', SetM w' b (n + 1) (fun t => K t || decide (t = s.data.toList)) → w.grownBy w' (some b) → wpList Tryd.prog ops Q rest (a.put o.dst undef) w') :
    wpList Tryd.prog ops Q (o :: rest) a w := by
  obtain ⟨D, h1, h2⟩ := hown
  refine wpList_mapUpdate_own w hg m x v 55 hop 9 4 keyedS Tryd.underlying55 boolR b n D hm h1 (by unfold maxLen; omega) _ _ _ hx hv (keyOfS s hs) (.lit (.bool true)) [] rfl ?_
  intro w' k1 k2
  exact hK w' ⟨_, k1, h2.put h1.isMap _⟩ k2
theorem put_num (w : World) {ops : Array Oper} {rest : List Oper} {o : Oper} {a : Act} {Q : Exit → Act → World → Prop} (hg : o.guard = none) (m x v : Operand) (hop : o.op = Op.mapUpdate 96 m x v)
    (b n : Nat) (K : List UInt8 → Bool) (f : List UInt8 → Int) (hm : a.eval m = .map (some b)) (hown : NumM w b n K f) (hn : n ≤ 1000000) (s : ByteArray) (hx : a.eval x = .string s) (hs : s.size ≤ maxLen) (hv : a.eval v = .int .i64 (f s.data.toList))
    (hK : ∀ w', NumM w' b (n + 1) (fun t => K t || decide (t = s.data.toList)) f → w.grownBy w' (some b) → wpList Tryd.prog ops Q rest (a.put o.dst undef) w') :
    wpList Tryd.prog ops Q (o :: rest) a w := by
  obtain ⟨D, h1, h2⟩ := hown
  refine wpList_mapUpdate_own w hg m x v 96 hop 9 3 keyedS Tryd.underlying96 intR b n D hm h1 (by unfold maxLen; omega) _ _ _ hx hv (keyOfS s hs) (.lit (.int .i64 (f s.data.toList))) [] rfl ?_
  intro w' k1 k2
  exact hK w' ⟨_, k1, h2.put h1.isMap _⟩ k2
end Go.Proofs.YtaomcimmhlpflaaDoor
