/-
  Places of texts in lists; ranges over texts.
-/
import Derived.Test.YtaomcimmhlpflaaDoorPlMap
import Derived.Test.YtaomcimmhlpflaaDoorPlHas
import Derived.Test.YtaomcimmhlpflaaDoorPlDm2
namespace Go.Proofs.YtaomcimmhlpflaaDoor
open Go.RowKit

/-- The place of a text in a list, or 0. -/
def ixP (sts : List (List UInt8)) (t : List UInt8) : Nat := (sts.findIdx? (fun u => decide (u = t))).getD 0
theorem ixP_at {sts : List (List UInt8)} {t : List UInt8} (k : Nat) (hk : k < sts.length) (h1 : ∀ j, j < k → ¬ sts.getD j [] = t) (h2 : sts.getD k [] = t) : ixP sts t = k := by
  unfold ixP
  have : sts.findIdx? (fun u => decide (u = t)) = some k := by
    rw [List.findIdx?_eq_some_iff_getElem]
    refine ⟨hk, ?_, fun j hj => ?_⟩
    · rw [List.getD_eq_getElem?_getD, List.getElem?_eq_getElem hk] at h2
      simpa using h2
    · have := h1 j hj
      rw [List.getD_eq_getElem?_getD, List.getElem?_eq_getElem (by omega)] at this
      simpa using this
  rw [this]; rfl
theorem ixP_no {sts : List (List UInt8)} {t : List UInt8} (h1 : ∀ j, j < sts.length → ¬ sts.getD j [] = t) : ixP sts t = 0 := by
  unfold ixP
  have : sts.findIdx? (fun u => decide (u = t)) = none := by
    rw [List.findIdx?_eq_none_iff]
    intro x hx
    obtain ⟨j, hj, rfl⟩ := List.getElem_of_mem hx
    have := h1 j hj
    rw [List.getD_eq_getElem?_getD, List.getElem?_eq_getElem hj] at this
    simpa using this
  rw [this]; rfl
theorem ixP_mem {sts : List (List UInt8)} {t : List UInt8} (h : t ∈ sts) : ixP sts t < sts.length ∧ sts.getD (ixP sts t) [] = t := by
  cases hx : sts.findIdx? (fun u => decide (u = t)) with
  | none =>
    rw [List.findIdx?_eq_none_iff] at hx
    have := hx t h
    simp at this
  | some k =>
    have hk : ixP sts t = k := by unfold ixP; rw [hx]; rfl
    rw [List.findIdx?_eq_some_iff_getElem] at hx
    obtain ⟨h1, h2, _⟩ := hx
    rw [hk]
    refine ⟨h1, ?_⟩
    rw [List.getD_eq_getElem?_getD, List.getElem?_eq_getElem h1]
    simpa using h2
theorem ixP_lt {sts : List (List UInt8)} (t : List UInt8) (h : 0 < sts.length) : ixP sts t < sts.length := by
  unfold ixP
  cases hx : sts.findIdx? (fun u => decide (u = t)) with
  | none => exact h
  | some k =>
    rw [List.findIdx?_eq_some_iff_getElem] at hx
    exact hx.1
theorem bytes_beq (a b : ByteArray) (r : Bool) (h : decide (a.data.toList = b.data.toList) = r) : (a.toList == b.toList) = r := by
  rw [ByteArray.toList_eq, ByteArray.toList_eq, ← h]
  by_cases e : a.data.toList = b.data.toList
  · rw [decide_eq_true e, e]; exact beq_self_eq_true _
  · rw [decide_eq_false e]; exact beq_eq_false_iff_ne.2 e
theorem plIndex_any (t : ByteArray) (sts : List (List UInt8)) (v : Value) (w : World) (hn : sts.length ≤ 1048576) (h : Rd sts v w) :
    Calls Tryd.prog 72 #[v, .string t] w fun e w' => e = .returned (.int .i64 (ixP sts t.data.toList : Nat)) ∧ w = w' := by
  have HV := Lib.hid h
  obtain ⟨a, cap, rfl, _⟩ := h
  obtain ⟨n, hnn⟩ : ∃ n, n = sts.length := ⟨_, rfl⟩
  have HN := Lib.hid hnn
  rw [← hnn] at hn
  rw [← hnn]
  clear hnn
  go_enter Tryd.func72, Tryd.ntmps72
  go_wp2
  go_loop [9] (fun i => ∃ k : Nat, k ≤ n ∧ i = .int .i64 k ∧ Hid (∀ j, j < k → ¬ sts.getD j [] = t.data.toList)) (fun i => n - (intOf i).toNat)
  case atStart => exact ⟨0, Nat.zero_le _, rfl, fun j hj => by omega⟩
  case round =>
    obtain ⟨k, hk, rfl, HJ⟩ := hrel
    by_cases hlt : k < n
    · have hlt2 : k < sts.length := by rw [← HN.out]; exact hlt
      obtain ⟨a', cap', hv', hcs⟩ := HV.out
      have ha' : a = a' := by simp only [Value.slice.injEq] at hv'; exact hv'.1
      obtain ⟨g, o, hgo, hg, hcell⟩ := hcs k hlt2
      rw [← ha'] at hgo
      clear hv' ha'
      subst hgo
      obtain ⟨bb, hbb⟩ : ∃ bb : ByteArray, bb = ⟨(sts.getD k []).toArray⟩ := ⟨_, rfl⟩
      have hbd : bb.data.toList = sts.getD k [] := by rw [hbb]
      unfold strV at hcell
      rw [← hbb] at hcell
      have hltI : (k : Int) < (n : Int) := by omega
      clear hcs hbb
      by_cases hb : sts.getD k [] = t.data.toList
      · have hq := bytes_beq bb t true (by rw [hbd]; exact decide_eq_true hb)
        have HX : Hid (ixP sts t.data.toList = k) := ixP_at k hlt2 HJ.out hb
        clear hb hbd
        go_wp2
        go_ret
        exact ⟨ret_int (by rw [HX.out]), rfl⟩
      · have hq := bytes_beq bb t false (by rw [hbd]; exact decide_eq_false hb)
        have HJ2 : Hid (∀ j, j < k + 1 → ¬ sts.getD j [] = t.data.toList) := by
          intro j hj
          by_cases e : j = k
          · subst e; exact hb
          · exact HJ.out j (by omega)
        clear hb hbd
        go_wp2
        go_round
        case rel => exact ⟨k + 1, by omega, by go_num, HJ2⟩
        case measure => simp [intOf]; omega
    · have hltI : ¬ (k : Int) < (n : Int) := by omega
      have HX : Hid (ixP sts t.data.toList = 0) := ixP_no (fun j hj => HJ.out j (by have := HN.out; omega))
      go_wp2
      go_ret
      exact ⟨ret_int (by rw [HX.out]; rfl), rfl⟩
theorem l1HasS_any (t : ByteArray) (sts : List (List UInt8)) (v : Value) (w : World) (hn : sts.length ≤ 1048576) (h : Rd sts v w) :
    Calls Tryd.prog 104 #[v, .string t] w fun e w' => e = .returned (.bool (decide (t.data.toList ∈ sts))) ∧ w = w' := by
  have HV := Lib.hid h
  obtain ⟨a, cap, rfl, _⟩ := h
  obtain ⟨n, hnn⟩ : ∃ n, n = sts.length := ⟨_, rfl⟩
  have HN := Lib.hid hnn
  rw [← hnn] at hn
  rw [← hnn]
  clear hnn
  go_enter Tryd.func104, Tryd.ntmps104
  go_wp2
  go_loop [9] (fun i => ∃ k : Nat, k ≤ n ∧ i = .int .i64 k ∧ Hid (∀ j, j < k → ¬ sts.getD j [] = t.data.toList)) (fun i => n - (intOf i).toNat)
  case atStart => exact ⟨0, Nat.zero_le _, rfl, fun j hj => by omega⟩
  case round =>
    obtain ⟨k, hk, rfl, HJ⟩ := hrel
    by_cases hlt : k < n
    · have hlt2 : k < sts.length := by rw [← HN.out]; exact hlt
      obtain ⟨a', cap', hv', hcs⟩ := HV.out
      have ha' : a = a' := by simp only [Value.slice.injEq] at hv'; exact hv'.1
      obtain ⟨g, o, hgo, hg, hcell⟩ := hcs k hlt2
      rw [← ha'] at hgo
      clear hv' ha'
      subst hgo
      obtain ⟨bb, hbb⟩ : ∃ bb : ByteArray, bb = ⟨(sts.getD k []).toArray⟩ := ⟨_, rfl⟩
      have hbd : bb.data.toList = sts.getD k [] := by rw [hbb]
      unfold strV at hcell
      rw [← hbb] at hcell
      have hltI : (k : Int) < (n : Int) := by omega
      clear hcs hbb
      by_cases hb : sts.getD k [] = t.data.toList
      · have hq := bytes_beq bb t true (by rw [hbd]; exact decide_eq_true hb)
        have HX : Hid (t.data.toList ∈ sts) := by
          show _ ∈ _
          rw [← hb, List.getD_eq_getElem?_getD, List.getElem?_eq_getElem hlt2]; exact List.getElem_mem _
        clear hb hbd
        go_wp2
        go_ret
        exact ⟨ret_bool (decide_eq_true HX.out).symm, rfl⟩
      · have hq := bytes_beq bb t false (by rw [hbd]; exact decide_eq_false hb)
        have HJ2 : Hid (∀ j, j < k + 1 → ¬ sts.getD j [] = t.data.toList) := by
          intro j hj
          by_cases e : j = k
          · subst e; exact hb
          · exact HJ.out j (by omega)
        clear hb hbd
        go_wp2
        go_round
        case rel => exact ⟨k + 1, by omega, by go_num, HJ2⟩
        case measure => simp [intOf]; omega
    · have hltI : ¬ (k : Int) < (n : Int) := by omega
      have HX : Hid (¬ t.data.toList ∈ sts) := by
        intro hm
        obtain ⟨j, hj, e⟩ := List.getElem_of_mem hm
        refine HJ.out j (by have := HN.out; omega) ?_
        rw [List.getD_eq_getElem?_getD, List.getElem?_eq_getElem hj]; exact e
      go_wp2
      go_ret
      exact ⟨ret_bool (decide_eq_false HX.out).symm, rfl⟩
/-- One step of a range over a text of plain signs, wherever its iterator lies. -/
theorem run_next_at (w : World) (r : Nat) (s : ByteArray) (pos : Nat) (ty : TypeId) (hr : w.heap[r]? = some (.stringIter s pos)) (h : pos < s.size) (ha : (s[pos]'h).toNat < 128) :
    ∃ w', (Instr.next (.pointer (some ⟨r, 0, none⟩)) true ty).run Tryd.prog w = .ok (.tuple #[.bool true, .int .i64 pos, .int .i32 (s[pos]'h).toNat]) w' ∧ w'.heap[r]? = some (.stringIter s (pos + 1)) ∧ w.grownBy w' (some r) ∧ w'.heap.size = w.heap.size := by
  have hlt : r < w.heap.size := (Array.getElem?_eq_some_iff.1 hr).1
  refine ⟨{ w with heap := w.heap.setIfInBounds r (.stringIter s (pos + 1)) }, ?_, ?_, ⟨rfl, rfl, rfl, by simp, fun k hk hne => ?_⟩, by simp⟩
  · simp only [Instr.next, getObj, setObj, Sem.run_bind, Sem.run, hr, Result.andThen, h, if_true, decode_ascii s pos h ha]
    simp [goInt]
  · simp [hlt]
  · have : r ≠ k := fun e => hne (by rw [e])
    simp [this]
theorem run_next_done (w : World) (r : Nat) (s : ByteArray) (pos : Nat) (ty : TypeId) (hr : w.heap[r]? = some (.stringIter s pos)) (h : ¬ pos < s.size) :
    (Instr.next (.pointer (some ⟨r, 0, none⟩)) true ty).run Tryd.prog w = .ok (.tuple #[.bool false]) w := by
  simp [Instr.next, getObj, Sem.run, hr, h]
theorem wpList_next_str (w : World) {ops : Array Oper} {rest : List Oper} {o : Oper} {a : Act} {Q : Exit → Act → World → Prop} (hg : o.guard = none) (it : Operand) (hop : o.op = Op.next it true) (r : Nat) (s : ByteArray) (pos : Nat)
    (hit : a.eval it = .pointer (some ⟨r, 0, none⟩)) (hr : w.heap[r]? = some (.stringIter s pos)) (h : pos < s.size) (ha : (s[pos]'h).toNat < 128)
    (hK : ∀ w', w'.heap[r]? = some (.stringIter s (pos + 1)) → w.grownBy w' (some r) → w'.heap.size = w.heap.size → wpList Tryd.prog ops Q rest (a.put o.dst (.tuple #[.bool true, .int .i64 pos, .int .i32 (s[pos]'h).toNat])) w') :
    wpList Tryd.prog ops Q (o :: rest) a w := by
  refine wpList_plain hg fun K' hK' => ?_
  obtain ⟨w', hrun, h1, h2, h3⟩ := run_next_at w r s pos o.type hr h ha
  unfold Oper.wp
  simp [execOp, hop, hit, hrun, Result.andThen]
  exact hK' _ _ (hK w' h1 h2 h3)
theorem wpList_next_end (w : World) {ops : Array Oper} {rest : List Oper} {o : Oper} {a : Act} {Q : Exit → Act → World → Prop} (hg : o.guard = none) (it : Operand) (hop : o.op = Op.next it true) (r : Nat) (s : ByteArray) (pos : Nat)
    (hit : a.eval it = .pointer (some ⟨r, 0, none⟩)) (hr : w.heap[r]? = some (.stringIter s pos)) (h : ¬ pos < s.size)
    (hK : wpList Tryd.prog ops Q rest (a.put o.dst (.tuple #[.bool false])) w) :
    wpList Tryd.prog ops Q (o :: rest) a w := by
  refine wpList_plain hg fun K' hK' => ?_
  unfold Oper.wp
  simp [execOp, hop, hit, run_next_done w r s pos o.type hr h, Result.andThen]
  exact hK' _ _ hK
end Go.Proofs.YtaomcimmhlpflaaDoor
