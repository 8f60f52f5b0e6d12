/-
  The words that last: words that spoil the same texts, none of them in another one.
-/
import Derived.Test.YtaomcimmhlpflaaDoorPlTl
import Derived.Test.YtaomcimmhlpflaaDoorPlWi
import Derived.Test.YtaomcimmhlpflaaDoorShelf
import Derived.Sort.OwnSorted
import Derived.ScopeJumps
import Derived.Deep.WholeRow
namespace Go.Proofs.YtaomcimmhlpflaaDoor
open Go.RowKit Go.Maps

/-- What is waiting and what lasts spoil what all words do. -/
structure LwI (ts : List (List UInt8)) (K : List UInt8 → Bool) (L : List (List UInt8)) : Prop where
  free : ∀ t, Free ts t ↔ (Free L t ∧ ∀ x, K x = true → ¬ x <:+: t)
  keys : ∀ x, K x = true → x ∈ ts
  last : ∀ x ∈ L, x ∈ ts
theorem LwI.start (ts : List (List UInt8)) (K : List UInt8 → Bool) (hK : ∀ x, K x = decide (x ∈ ts)) : LwI ts K [] := by
  refine ⟨fun t => ?_, fun x hx => by rw [hK] at hx; simpa using hx, fun x hx => by cases hx⟩
  constructor
  · intro h; exact ⟨fun w hw => (by cases hw), fun x hx => h x (by rw [hK] at hx; simpa using hx)⟩
  · rintro ⟨_, h⟩ x hx; exact h x (by rw [hK]; simpa using hx)
def less (K : List UInt8 → Bool) (x : List UInt8) : List UInt8 → Bool := fun z => K z && !decide (z = x)
theorem less_iff (K : List UInt8 → Bool) (x z : List UInt8) : less K x z = true ↔ (K z = true ∧ z ≠ x) := by unfold less; simp
theorem LwI.drop {ts : List (List UInt8)} {K : List UInt8 → Bool} {L : List (List UInt8)} (h : LwI ts K L) {x o : List UInt8} (ho : less K x o = true ∨ o ∈ L) (hi : o <:+: x) : LwI ts (less K x) L := by
  refine ⟨fun t => ?_, fun z hz => h.keys z ((less_iff K x z).1 hz).1, h.last⟩
  rw [h.free t]
  constructor
  · rintro ⟨h1, h2⟩; exact ⟨h1, fun z hz => h2 z ((less_iff K x z).1 hz).1⟩
  · rintro ⟨h1, h2⟩
    refine ⟨h1, fun z hz => ?_⟩
    by_cases e : z = x
    · subst e
      intro hin
      rcases ho with ho | ho
      · exact h2 o ho (hi.trans hin)
      · exact h1 o ho (hi.trans hin)
    · exact h2 z ((less_iff K x z).2 ⟨hz, e⟩)
theorem LwI.keep {ts : List (List UInt8)} {K : List UInt8 → Bool} {L : List (List UInt8)} (h : LwI ts K L) {x : List UInt8} (hx : K x = true) : LwI ts (less K x) (L ++ [x]) := by
  refine ⟨fun t => ?_, fun z hz => h.keys z ((less_iff K x z).1 hz).1, fun z hz => ?_⟩
  · rw [h.free t]
    constructor
    · rintro ⟨h1, h2⟩
      refine ⟨fun z hz => ?_, fun z hz => h2 z ((less_iff K x z).1 hz).1⟩
      rcases List.mem_append.1 hz with hz | hz
      · exact h1 z hz
      · rw [List.mem_singleton.1 hz]; exact h2 x hx
    · rintro ⟨h1, h2⟩
      refine ⟨fun z hz => h1 z (List.mem_append_left _ hz), fun z hz => ?_⟩
      by_cases e : z = x
      · subst e; exact h1 z (List.mem_append_right _ (List.mem_singleton.2 rfl))
      · exact h2 z ((less_iff K x z).2 ⟨hz, e⟩)
  · rcases List.mem_append.1 hz with hz | hz
    · exact h.last z hz
    · rw [List.mem_singleton.1 hz]; exact h.keys x hx
theorem LwI.done {ts : List (List UInt8)} {K : List UInt8 → Bool} {L : List (List UInt8)} (h : LwI ts K L) (h0 : ∀ x, K x = false) : SameFree ts L := fun t => by
  rw [h.free t]
  exact ⟨fun k => k.1, fun k => ⟨k, fun x hx => by rw [h0 x] at hx; cases hx⟩⟩
/-- How many keys a map has. -/
def mapLen (w : World) (b : Nat) : Nat := match w.heap[b]? with
  | some (.map es _) => es.size
  | _ => 0
theorem mapLen_eq {w : World} {b n : Nat} {D : DataW Unit} {R : Value → Option (DataW Unit × List MemPlace)} (h : w.ownsMap Tryd.prog 9 R b n D) : mapLen w b = Maps.size D := by
  obtain ⟨es, clock, hb, _, _, rfl⟩ := h
  unfold mapLen
  rw [hb]
  show es.size = ((es.toList.map _).foldr DataW.insert []).length
  rw [length_sorted]; simp
theorem SetD.del {K : List UInt8 → Bool} {D : DataW Unit} (h : SetD K D) (x : List UInt8) : SetD (less K x) (D.del (.string x)) := by
  intro t
  by_cases e : t = x
  · subst e
    exact ⟨by rw [Maps.has_del_same]; simp [less], by rw [Maps.atKey_del_same]; simp [less]⟩
  · have hne : (Lit.string t) ≠ (Lit.string x) := by intro h'; cases h'; exact e rfl
    rw [Maps.has_del_other hne, Maps.atKey_del_other hne]
    simpa [less, e] using h t
/-- A loop over a set is under way. -/
def SetR (w : World) (b r n : Nat) (K : List UInt8 → Bool) (left : Lit → Bool) (cnt : Nat) : Prop := ∃ D : DataW Unit, w.ranges Tryd.prog 9 boolR b r n D left cnt ∧ SetD K D
theorem SetR.set {w : World} {b r n : Nat} {K : List UInt8 → Bool} {left : Lit → Bool} {cnt : Nat} (h : SetR w b r n K left cnt) : SetM w b n K := by obtain ⟨D, h1, h2⟩ := h; exact ⟨D, h1.owns, h2⟩
theorem SetR.kept {w w' : World} {b r n : Nat} {K : List UInt8 → Bool} {left : Lit → Bool} {cnt : Nat} (h : SetR w b r n K left cnt) {row : Option Nat} (g : w.grownBy w' row) (h1 : some b ≠ row) (h2 : some r ≠ row) : SetR w' b r n K left cnt := by obtain ⟨D, k1, k2⟩ := h; exact ⟨D, k1.kept g h1 h2, k2⟩
theorem SetR.left_eq {w : World} {b r n : Nat} {K : List UInt8 → Bool} {left : Lit → Bool} {cnt : Nat} (h : SetR w b r n K left cnt) : w.rangeLeft b r = cnt := by obtain ⟨D, k1, k2⟩ := h; exact k1.left_eq
theorem SetR.ne {w : World} {b r n : Nat} {K : List UInt8 → Bool} {left : Lit → Bool} {cnt : Nat} (h : SetR w b r n K left cnt) : r ≠ b := by obtain ⟨D, k1, k2⟩ := h; exact k1.ne
theorem SetR.lt {w : World} {b r n : Nat} {K : List UInt8 → Bool} {left : Lit → Bool} {cnt : Nat} (h : SetR w b r n K left cnt) : r < w.heap.size := by obtain ⟨D, k1, k2⟩ := h; exact k1.lt
theorem mapLen_kept {w w' : World} {b n : Nat} {K : List UInt8 → Bool} (h : SetM w b n K) {row : Option Nat} (g : w.grownBy w' row) (h1 : some b ≠ row) : mapLen w' b = mapLen w b := by
  unfold mapLen; rw [g.block b h.lt (fun e => h1 e)]
theorem keyOf_str {key : Value} {kl : Lit} (h : keyOf Tryd.prog 9 key = some kl) : ∃ x : ByteArray, key = .string x := by
  cases key <;> simp [keyOf, mapKey, Tryd.underlying9] at h
  exact ⟨_, rfl⟩
theorem keyOf_str2 {x : ByteArray} {kl : Lit} (h : keyOf Tryd.prog 9 (.string x) = some kl) : x.size ≤ maxLen ∧ kl = .string x.data.toList := by
  simp [keyOf, mapKey, Tryd.underlying9] at h
  exact ⟨h.1, h.2.symm⟩
theorem boolR_some {v : Value} {y : DataW Unit × List MemPlace} (h : boolR v = some y) : ∃ c, v = .bool c := by
  unfold boolR at h
  split at h
  · exact ⟨_, rfl⟩
  · cases h
theorem strike_str (left : Lit → Bool) (x z : List UInt8) : (left (.string z) && !(Lit.string z).sameKey (.string x)) = (left (.string z) && !decide (z = x)) := by
  have : (Lit.string z).sameKey (.string x) = decide (z = x) := by
    rw [Bool.eq_iff_iff, WideAt.sameKey_iff (keylitS x), decide_eq_true_eq]
    exact ⟨fun h => by cases h; rfl, fun h => by rw [h]⟩
  rw [this]
theorem range_set (w : World) {ops : Array Oper} {rest : List Oper} {o : Oper} {a : Act} {Q : Exit → Act → World → Prop} (hg : o.guard = none) (m : Operand) (hop : o.op = Op.range 55 m) (b n : Nat) (K : List UInt8 → Bool)
    (hm : a.eval m = .map (some b)) (hown : SetM w b n K)
    (hK : ∀ w' left cnt, SetR w' b w.heap.size n K left cnt → (∀ z, left (.string z) = K z) → w.grownBy w' none → w'.heap.size = w.heap.size + 1 → wpList Tryd.prog ops Q rest (a.put o.dst (.pointer (some ⟨w.heap.size, 0, none⟩))) w') :
    wpList Tryd.prog ops Q (o :: rest) a w := by
  obtain ⟨D, h1, h2⟩ := hown
  refine wpList_range_own w hg m 55 hop 9 4 keyedS Tryd.underlying55 boolR b n D hm h1 ?_
  intro w' hr hg' hs
  exact hK w' _ _ ⟨D, hr, h2⟩ (fun z => (h2 z).1) hg' hs
theorem next_set (w : World) {ops : Array Oper} {rest : List Oper} {o : Oper} {a : Act} {Q : Exit → Act → World → Prop} (hg : o.guard = none) (it : Operand) (hop : o.op = Op.next it false) (b r n : Nat) (K : List UInt8 → Bool) (left : Lit → Bool) (cnt : Nat)
    (hit : a.eval it = .pointer (some ⟨r, 0, none⟩)) (h : SetR w b r n K left cnt)
    (hDone : (∀ z, left (.string z) = false) → wpList Tryd.prog ops Q rest (a.put o.dst (.tuple #[.bool false])) w)
    (hMore : ∀ (x : ByteArray) (cv : Value) (w' : World) (left' : Lit → Bool) (cnt' : Nat), x.size ≤ maxLen → left (.string x.data.toList) = true → SetR w' b r n K left' cnt' → (∀ z, left' (.string z) = (left (.string z) && !decide (z = x.data.toList))) → cnt' < cnt →
      w.grownBy w' (some r) → w'.heap.size = w.heap.size → (Instr.entry (.pointer (some ⟨r, 0, none⟩))).run Tryd.prog w' = .ok (.tuple #[.string x, cv]) w' → wpList Tryd.prog ops Q rest (a.put o.dst (.tuple #[.bool true, .string x, cv])) w') :
    wpList Tryd.prog ops Q (o :: rest) a w := by
  obtain ⟨D, h1, h2⟩ := h
  refine wpList_next_ranges w hg it hop 9 keyedS boolR Value.string Value.bool (fun key kl hk => keyOf_str hk) (fun v y hv => boolR_some hv) b r n D left cnt hit h1 (fun _ hl => hDone (fun z => hl _)) ?_
  intro x c kl y w' cnt' hkey hlk hv hat hrg hlt hgr hsz hen
  obtain ⟨hx1, rfl⟩ := keyOf_str2 hkey
  exact hMore x _ w' _ cnt' hx1 hlk ⟨D, hrg, h2⟩ (fun z => strike_str left x.data.toList z) hlt hgr hsz hen
theorem drop_set (w : World) {ops : Array Oper} {rest : List Oper} {o : Oper} {a : Act} {Q : Exit → Act → World → Prop} (hg : o.guard = none) (m x : Operand) (hop : o.op = Op.call { callee := Callee.builtin Builtin.delete, args := #[m, x], argTypes := #[55, 9] })
    (b r n : Nat) (K : List UInt8 → Bool) (left : Lit → Bool) (cnt : Nat) (hm : a.eval m = .map (some b)) (h : SetR w b r n K left cnt) (s : ByteArray) (hx : a.eval x = .string s) (hs : s.size ≤ maxLen) (hin : K s.data.toList = true)
    (hK : ∀ w' left' cnt', SetR w' b r n (less K s.data.toList) left' cnt' → (∀ z, left' (.string z) = (left (.string z) && !decide (z = s.data.toList))) → cnt' ≤ cnt → w.grownBy w' (some b) → w'.heap.size = w.heap.size → mapLen w' b + 1 = mapLen w b → wpList Tryd.prog ops Q rest (a.put o.dst (.tuple #[])) w') :
    wpList Tryd.prog ops Q (o :: rest) a w := by
  obtain ⟨D, h1, h2⟩ := h
  refine wpList_delete_ranges w hg m x 55 9 hop 4 keyedS Tryd.underlying55 boolR b r n D left cnt hm h1 _ _ hx (keyOfS s hs) ?_
  intro w' cnt' k1 k2 k3
  have hsz := Maps.size_del (k := .string s.data.toList) (h1.owns.tidy keyedS)
  rw [if_pos (by rw [(h2 _).1]; exact hin)] at hsz
  refine hK w' _ cnt' ⟨_, k1, h2.del _⟩ (fun z => strike_str left _ z) k2 k3.grown ?_ ?_
  · obtain ⟨es, clock, es', clock', _, rfl⟩ := k3
    simp [ChangeMaps.setBlock]
  · rw [mapLen_eq h1.owns, mapLen_eq k1.owns]; exact hsz
theorem append_strsG (w : World) {ops : Array Oper} {rest : List Oper} {o : Oper} {a : Act} {Q : Exit → Act → World → Prop} (hgd : o.guard = none) (s x : Operand)
    (ho : o.op = .call { callee := .builtin .append, args := #[s, x], argTypes := #[22, 22] })
    (B : Nat) (ts : List (List UInt8)) (v : Value) (hs : a.eval s = v) (hown : Strs B ts v w) (k : Nat) (us : List (List UInt8)) (hx : a.eval x = .slice (some ⟨k, 0, none⟩) us.length us.length) (hc : ∀ j u, us[j]? = some u → w.cell? ⟨k, j, none⟩ = some (strV u))
    (hlen : ts.length + us.length ≤ 2000000) (hB : B ≤ w.heap.size)
    (h : ∀ v' w', Strs B (ts ++ us) v' w' → Below B w w' → w.grownBy w' v.ownBlock → wpList Tryd.prog ops Q rest (a.put o.dst v') w') :
    wpList Tryd.prog ops Q (o :: rest) a w := by
  obtain ⟨i0, hi, hz0, hz1, hz2⟩ := info_parts (show (Tryd.prog.info? 9).map (fun i => (i.zero, i.size, i.bytes)) = some (some (.string ⟨#[]⟩), 1, 16) by kernel_rfl)
  refine wpList_append_own_at _ hgd s x 22 ho B 9 i0 (.string ⟨#[]⟩) 1 16 Tryd.underlying22 hi hz0 hz1 hz2 rfl (by decide) v ts.length (ts.map strV) hs hown ⟨k, 0, none⟩ us.length us.length (us.map strV) hx (by simp) ?_ ?_ ?_ ?_ hB ?_
  · intro j u hj
    rw [List.getElem?_map] at hj
    cases e : us[j]? with
    | none => rw [e] at hj; cases hj
    | some z => rw [e] at hj; simp at hj; subst hj; have := hc j z e; cases j <;> simpa [Addr.add] using this
  · intro u hu; simp at hu; obtain ⟨z, _, rfl⟩ := hu; rfl
  · unfold maxLen; omega
  · omega
  · intro v' w' h1 hg _ _
    refine h v' w' ?_ ?_ hg
    · unfold Strs; simpa using h1
    · exact (Below.refl B w).grown hg hB (fun q hq => (World.ownsRow.lt hown q hq).1)
theorem ints_val {B : Nat} {xs : List Int} {v : Value} {w : World} (h : Ints B xs v w) : ∃ a c, v = .slice a xs.length c := by
  rcases h.2 with ⟨hv, hn⟩ | ⟨g, cap, cur, hv, _⟩
  · exact ⟨none, 0, by rw [hv, hn]⟩
  · exact ⟨_, cap, hv⟩
theorem Strs.kp {B : Nat} {ts : List (List UInt8)} {v : Value} {w w' : World} {row : Option Nat} (h : Strs B ts v w) (k : w.grownBy w' row) (hne : ∀ q, v.ownBlock = some q → row ≠ some q) : Strs B ts v w' := by
  refine World.ownsRow.kept h k ?_
  cases hv : v.ownBlock with
  | none => exact .inl rfl
  | some q => exact .inr (fun e => hne q hv e.symm)
theorem SetR.row {w : World} {b r n : Nat} {K : List UInt8 → Bool} {left : Lit → Bool} {cnt : Nat} {B : Nat} {ts : List (List UInt8)} {v : Value} (h : SetR w b r n K left cnt) (hv : Strs B ts v w) : ¬ v.ownBlock = some r := by
  obtain ⟨D, h1, _⟩ := h
  exact fun e => row_ne_iter hv h1 e.symm
theorem gbB {w w' : World} (g : w.grownBy w' none) : Below w.heap.size w w' := ⟨g.os, g.tape, g.output, g.size, fun i hi => g.block i hi (fun e => by cases e)⟩
theorem len_wix {ts : List (List UInt8)} {t : List UInt8} : 0 < (wix ts t ts.length).length ↔ ∃ o ∈ ts, o <:+: t := by
  unfold wix
  rw [List.length_map, List.length_pos_iff_exists_mem]
  constructor
  · rintro ⟨i, hi⟩
    obtain ⟨h1, h2⟩ := List.mem_filter.1 hi
    have hlt := List.mem_range.1 h1
    refine ⟨ts.getD i [], ?_, by simpa using h2⟩
    rw [List.getD_eq_getElem?_getD, List.getElem?_eq_getElem hlt]; exact List.getElem_mem _
  · rintro ⟨o, ho, hin⟩
    obtain ⟨i, hi, rfl⟩ := List.getElem_of_mem ho
    refine ⟨i, List.mem_filter.2 ⟨List.mem_range.2 hi, ?_⟩⟩
    rw [List.getD_eq_getElem?_getD, List.getElem?_eq_getElem hi]; simpa using hin
set_option maxRecDepth 100000 in
set_option maxHeartbeats 8000000 in
theorem lasting_any (ts : List (List UInt8)) (v : Value) (w : World) (hn : ts.length ≤ 3) (ht : ∀ i, i < ts.length → (ts.getD i []).length ≤ 4) (h : Rd ts v w) (hmx : MaxIs w) :
    Calls Tryd.prog 106 #[v] w fun e w' => (∃ L u, e = .returned u ∧ Strs (w.heap.size + 1) L u w' ∧ SameFree ts L ∧ L.length ≤ 3 ∧ ∀ x ∈ L, x ∈ ts) ∧ Below w.heap.size w w' := by
  have HV := Lib.hid h
  have HT : Hid (∀ x ∈ ts, x.length ≤ 4) := fun x hx => by
    obtain ⟨i, hi, rfl⟩ := List.getElem_of_mem hx
    have := ht i hi
    rw [List.getD_eq_getElem?_getD, List.getElem?_eq_getElem hi] at this
    exact this
  have HM := Lib.hid hmx
  obtain ⟨a, cap, rfl, _⟩ := h
  obtain ⟨m, hm⟩ : ∃ m, m = ts.length := ⟨_, rfl⟩
  have HN := Lib.hid hm
  rw [← hm] at hn
  rw [← hm]
  obtain ⟨b, hb⟩ : ∃ b, b = w.heap.size := ⟨_, rfl⟩
  have HBE := Lib.hid hb
  clear ht hmx hm hb
  have hmm := @run_makeMap Tryd.prog
  go_enter Tryd.func106, Tryd.ntmps106
  go_wp2_with fail
  refine (fun pass => wp_scope_jumps 0 (fun a' w' => ∃ (K : List UInt8 → Bool) (L : List (List UInt8)) (n : Nat) (vv : Value) (u0 u1 u2 u4 u5 u7 u8 u9 u10 u11 u12 u13 u14 u15 u16 u17 u18 u19 u20 u21 u22 u23 u24 u25 u26 u27 u28 u29 u30 u31 u32 u33 u34 u35 u36 u37 u38 u39 u40 u41 u42 u43 u44 u45 u46 u47 : Value), a' = { tmps := #[u0, u1, u2, .map (some b), u4, u5, vv, u7, u8, u9, u10, u11, u12, u13, u14, u15, u16, u17, u18, u19, u20, u21, u22, u23, u24, u25, u26, u27, u28, u29, u30, u31, u32, u33, u34, u35, u36, u37, u38, u39, u40, u41, u42, u43, u44, u45, u46, u47], defers := [] } ∧ Hid (SetM w' b n K ∧ LwI ts K L ∧ Strs (b + 1) L vv w' ∧ Below b w w' ∧ L.length + mapLen w' b ≤ 3 ∧ n ≤ 10)) (fun _ w' => mapLen w' b) rfl ?_ pass) ?_
  · go_wp2
    obtain ⟨W, hW⟩ : ∃ W, W = w.alloc (.map #[] 0) := ⟨_, rfl⟩
    have HS0 : Hid (SetM W b 0 (fun _ => false)) := by show SetM _ _ _ _; rw [hW, HBE.out]; exact SetM.made w
    have HB0 : Hid (Below b w W) := by show Below _ _ _; rw [hW, HBE.out]; exact (Below.refl _ _).alloc (Nat.le_refl _) _
    have HL0 : Hid (mapLen W b = 0) := by show _ = _; rw [hW, HBE.out]; unfold mapLen; rw [heap_alloc_last]; rfl
    rw [← hW, ← HBE.out]
    clear hW hmm
    go_loopw [12] (fun i wr => ∃ k : Nat, k ≤ m ∧ i = .int .i64 k ∧ Hid (SetM wr b k (fun t => decide (t ∈ ts.take k))) ∧ Hid (Below b w wr)) (fun i _ => m - (intOf i).toNat)
    case atStart => exact ⟨0, Nat.zero_le _, rfl, HS0.out.congr (fun t => by simp), HB0.out⟩
    case round =>
      obtain ⟨k, hk, rfl, HS, HB⟩ := hrel
      obtain ⟨wo, rfl⟩ : ∃ wo : World, wo = wr := ⟨_, rfl⟩
      by_cases hlt : k < m
      · obtain ⟨a', cap', hv', hcs⟩ := HV.out
        have hlt2 : k < ts.length := by rw [← HN.out]; exact hlt
        have ha' : a = a' := by simp only [Value.slice.injEq] at hv'; exact hv'.1
        obtain ⟨g, o, hgo, hg, hcell⟩ := hcs k hlt2
        rw [← ha'] at hgo
        clear hv' ha'
        subst hgo
        have hcell := (HB.out.cell (p := ⟨g, o + k, none⟩) (by show g < b; rw [HBE.out]; exact hg)).trans hcell
        obtain ⟨bb, hbb⟩ : ∃ bb : ByteArray, bb = ⟨(ts.getD k []).toArray⟩ := ⟨_, rfl⟩
        have hbd : bb.data.toList = ts.getD k [] := by rw [hbb]
        have hmem : ts.getD k [] ∈ ts := by rw [List.getD_eq_getElem?_getD, List.getElem?_eq_getElem hlt2]; exact List.getElem_mem _
        have HBL : Hid (bb.size ≤ maxLen) := by
          show _ ≤ _
          have h1 : bb.data.toList.length = bb.size := by simp
          rw [← h1, hbd]; have := HT.out _ hmem; unfold maxLen; omega
        have HKK : Hid (∀ t, (decide (t ∈ ts.take k) || decide (t = bb.data.toList)) = decide (t ∈ ts.take (k + 1))) := fun t => by
          rw [hbd, List.take_succ_eq_append_getElem hlt2, Bool.eq_iff_iff]
          simp only [Bool.or_eq_true, decide_eq_true_eq, List.mem_append, List.mem_singleton]
          rw [List.getD_eq_getElem?_getD, List.getElem?_eq_getElem hlt2]
          rfl
        unfold strV at hcell
        rw [← hbb] at hcell
        have hltI : (k : Int) < (m : Int) := by omega
        clear hcs hbb hbd hmem
        go_wp2_with (at_mapUpdate; refine put_set _ rfl _ _ _ rfl b k _ rfl HS.out (by omega) bb rfl HBL.out rfl ?_; intro w2 hs2 hg2; have HS2 := Lib.hid (hs2.congr HKK.out); have HG2 := Lib.hid hg2; clear hs2 hg2)
        go_roundw
        case rel => exact ⟨k + 1, by omega, by go_num, HS2, HB.out.trans (gb_to HG2.out (Nat.le_refl _) (by rw [HBE.out]; exact HB.out.size))⟩
        case measure => simp [intOf]; omega
      · have hltI : ¬ (k : Int) < (m : Int) := by omega
        have hkm : k = ts.length := by rw [← HN.out]; omega
        have HS3 := Lib.hid (HS.out.congr (K' := fun t => decide (t ∈ ts)) (fun t => by rw [hkm, List.take_length]))
        have HJ : Hid (SetM wo b k (fun t => decide (t ∈ ts)) ∧ LwI ts (fun t => decide (t ∈ ts)) [] ∧ Strs (b + 1) [] (.slice none 0 0) wo ∧ Below b w wo ∧ ([] : List (List UInt8)).length + mapLen wo b ≤ 3 ∧ k ≤ 10) := by
          refine ⟨HS3.out, LwI.start ts _ (fun _ => rfl), Strs.nil _ _, HB.out, ?_, by omega⟩
          obtain ⟨D, hD, _⟩ := HS.out
          rw [mapLen_eq hD]
          have := hD.size_le
          simp; omega
        clear hkm HS HS3
        go_wp2
        go_step3
        have HJE : ∃ (K : List UInt8 → Bool) (L : List (List UInt8)) (vv : Value), vv = .slice none 0 0 ∧ Hid (SetM wo b k K ∧ LwI ts K L ∧ Strs (b + 1) L vv wo ∧ Below b w wo ∧ L.length + mapLen wo b ≤ 3 ∧ k ≤ 10) := ⟨_, _, _, rfl, HJ.out⟩
        clear HJ
        obtain ⟨K, L, vv, hvv, HJ⟩ := HJE
        rw [← hvv]
        clear hvv hlt hltI hk
        obtain ⟨n, rfl⟩ : ∃ n, n = k := ⟨_, rfl⟩
        obtain ⟨w1, rfl⟩ : ∃ w1 : World, w1 = wo := ⟨_, rfl⟩
        have HS := Lib.hid HJ.out.1
        have HI := Lib.hid HJ.out.2.1
        have HV1 := Lib.hid HJ.out.2.2.1
        have HB := Lib.hid HJ.out.2.2.2.1
        have HLN := Lib.hid HJ.out.2.2.2.2
        have hn10 := HLN.out.2
        clear HJ
        obtain ⟨r, hr⟩ : ∃ r, r = w1.heap.size := ⟨_, rfl⟩
        have HR := Lib.hid hr
        have HBR : Hid (b < r) := by show _ < _; rw [hr]; exact HS.out.lt
        clear hr
        go_wp2_with (at_range; refine range_set _ rfl _ rfl b n K rfl HS.out ?_; intro w2 left cnt hr2 hlf hg2 hs2; rw [← HR.out] at hr2 ⊢; have HR2 := Lib.hid hr2; have HLF := Lib.hid hlf; have HG2 := Lib.hid hg2; have HS2 := Lib.hid hs2; clear hr2 hlf hg2 hs2)
        go_frame
        go_loopw [6] (fun xv wr => ∃ (K' : List UInt8 → Bool) (L' : List (List UInt8)) (left' : Lit → Bool) (cnt' : Nat), Hid (SetR wr b r n K' left' cnt') ∧ Hid (∀ z, left' (.string z) = K' z) ∧ Hid (LwI ts K' L') ∧ Hid (Strs (b + 1) L' xv wr) ∧ Hid (Below b w wr) ∧ Hid (L'.length + mapLen wr b ≤ 3 ∧ mapLen wr b ≤ mapLen w1 b)) (fun _ wr => wr.rangeLeft b r)
        case atStart =>
          have hle : mapLen w2 b = mapLen w1 b := mapLen_kept HS.out HG2.out (by simp)
          refine ⟨K, L, left, cnt, HR2.out, HLF.out, HI.out, ?_, ?_, ?_⟩
          · exact HV1.out.below (gbB HG2.out)
          · exact HB.out.trans ((gbB HG2.out).mono (by rw [HBE.out]; exact HB.out.size))
          · show _ ∧ _; rw [hle]; exact ⟨HLN.out.1, Nat.le_refl _⟩
        case round =>
          obtain ⟨K', L', left', cnt', HR3, HLF3, HI3, HV3, HB3, HLN3⟩ := hrel
          clear HR2 HLF HI HV1 HB HLN HG2 HS2
          obtain ⟨wo, rfl⟩ : ∃ wo : World, wo = wr := ⟨_, rfl⟩
          go_wp2_with (at_next; refine next_set _ rfl _ rfl b r n K' left' cnt' rfl HR3.out ?_ ?_)
          · intro hl0
            have HSF : Hid (SameFree ts L') := HI3.out.done (fun z => by rw [← HLF3.out z]; exact hl0 z)
            have HLS := Lib.hid HI3.out.last
            have hL3 : L'.length ≤ 3 := by have := HLN3.out.1; omega
            have HB4 := Lib.hid HB3.out
            rcases HV3.out.2 with ⟨hnil, hz⟩ | ⟨g, cp, cur, hv, hbase, hgb, h1, h2, h3, h4⟩
            · subst hnil
              go_wp2_with (go_at_call 126; (refine (Tryd.slices_Sort_string_none none 0 _).mono ?_); rintro e w9 ⟨rfl, rfl⟩)
              simp only [Exit.jump]
              go_ret
              exact ⟨⟨L', _, rfl, by rw [← HBE.out]; exact HV3.out, HSF.out, hL3, HLS.out⟩, by rw [← HBE.out]; exact HB4.out⟩
            · subst hv
              have hgs := (Array.getElem?_eq_some_iff.1 hgb).1
              have HSO : Hid (Calls Tryd.prog 126 #[.slice (some ⟨g, 0, none⟩) L'.length cp] wo fun e w' => e = .returned (.tuple #[]) ∧ Strs (b + 1) (L'.mergeSort fun x y => decide (x ≤ y)) (.slice (some ⟨g, 0, none⟩) L'.length cp) w' ∧ wo.grownBy w' (some g)) := by
                refine (Tryd.slices_Sort_string g 0 cp L' wo (holds_of_block hgb (by show cur.toList.take L'.length = L'.map strV; simpa using h4)) hgs (by omega)).mono ?_
                rintro e w' ⟨rfl, n9, os9, rfl⟩
                refine ⟨rfl, ?_, grownBy_sorted _⟩
                have := ownsRow_sorted (n := n9) (os := os9) (ts := L'.mergeSort fun x y => decide (x ≤ y)) (ss := L') (by simp) hbase hgb h1 h2 h3
                unfold Strs
                rw [List.length_mergeSort]
                exact this
              have hgB : b + 1 ≤ g := hbase
              clear hgb h1 h2 h3 h4 hgs hbase
              go_wp2_with (go_at_call 126; (refine HSO.out.mono ?_); rintro e w9 ⟨rfl, hs9, hg9⟩; have HS9 := Lib.hid hs9; have HG9 := Lib.hid hg9; clear hs9 hg9)
              simp only [Exit.jump]
              go_ret
              refine ⟨⟨_, _, rfl, by rw [← HBE.out]; exact HS9.out, HSF.out.trans (SameFree.perm (List.mergeSort_perm _ _).symm), by rw [List.length_mergeSort]; exact hL3, fun x hx => HLS.out x (List.mem_mergeSort.1 hx)⟩, ?_⟩
              rw [← HBE.out]
              exact HB4.out.trans (gb_to HG9.out (by omega) (by rw [HBE.out]; exact HB4.out.size))
          · intro x c w3 left3 cnt3 hxs hlx hr3 hlf3 hlt3 hg3 hs3 hen
            have hKx : K' x.data.toList = true := by rw [← HLF3.out]; exact hlx
            have hxmem := HI3.out.keys _ hKx
            have hx4 : x.size ≤ 4 := by
              have h1 : x.data.toList.length = x.size := by simp
              have := HT.out _ hxmem
              omega
            have HL4 : Hid (∀ i, i < L'.length → (L'.getD i []).length ≤ 1048576) := fun i hi => by
              rw [List.getD_eq_getElem?_getD, List.getElem?_eq_getElem hi]
              have := HT.out _ (HI3.out.last _ (List.getElem_mem hi))
              show L'[i].length ≤ _
              omega
            have hL3 : L'.length ≤ 3 := by have := HLN3.out.1; omega
            obtain ⟨K1, hK1⟩ : ∃ K1, K1 = less K' x.data.toList := ⟨_, rfl⟩
            have HK1 := Lib.hid hK1
            have HKX := Lib.hid hKx
            have hbr : b ≠ r := fun e => HR3.out.ne e.symm
            have HV3a : Hid (Strs (b + 1) L' u6 w3) := HV3.out.kp hg3 (fun q hq e => HR3.out.row HV3.out (by rw [hq]; exact e.symm))
            have HB3a : Hid (Below b w w3) := HB3.out.trans (gb_to hg3 (Nat.le_of_lt HBR.out) (by rw [HBE.out]; exact HB3.out.size))
            have HML : Hid (mapLen w3 b = mapLen wo b) := mapLen_kept HR3.out.set hg3 (by simp [hbr])
            have HR3a := Lib.hid hr3
            have HLF3a : Hid (∀ z, left3 (.string z) = (left' (.string z) && !decide (z = x.data.toList))) := hlf3
            have HLT := Lib.hid hlt3
            clear hK1 hKx hxmem hlx hr3 hlf3 hlt3 hg3 hs3
            go_wp2_with (first
              | (at_delete; refine drop_set _ rfl _ _ rfl b r n K' left3 cnt3 rfl HR3a.out x rfl hxs HKX.out ?_; intro w4 left4 cnt4 hr4 hlf4 hle4 hg4 hs4 hml4; rw [← HK1.out] at hr4; have HR4 := Lib.hid hr4; have HLF4 := Lib.hid hlf4; have HLE4 := Lib.hid hle4; have HV4 : Hid (Strs (b + 1) L' u6 w4) := HV3a.out.kp hg4 (fun q hq e => by cases e; have := (World.ownsRow.lt HV3a.out b hq).1; omega); have HB4 : Hid (Below b w w4) := HB3a.out.trans (gb_to hg4 (Nat.le_refl _) (by rw [HBE.out]; exact HB3a.out.size)); have HM4 : Hid (mapLen w4 b + 1 = mapLen wo b) := (by show _ = _; rw [hml4, HML.out]); clear hr4 hlf4 hle4 hg4 hs4 hml4; obtain ⟨r2, hr2⟩ : ∃ r2, r2 = w4.heap.size := ⟨_, rfl⟩; have HRR := Lib.hid hr2; clear hr2)
              | (at_range; refine range_set _ rfl _ rfl b n K1 rfl HR4.out.set ?_; intro w5 left5 cnt5 hr5 hlf5 hg5 hs5; rw [← HRR.out] at hr5 ⊢; have HR5 := Lib.hid hr5; have HLF5 := Lib.hid hlf5; have HG5 := Lib.hid hg5; clear hr5 hlf5 hg5 hs5))
            go_frame
            have HR5a : Hid (SetR w5 b r n K1 left4 cnt4) := HR4.out.kept HG5.out (by simp) (by simp)
            have HV5 : Hid (Strs (b + 1) L' u6 w5) := HV4.out.below (gbB HG5.out)
            have HB5 : Hid (Below b w w5) := HB4.out.trans ((gbB HG5.out).mono (by rw [HBE.out]; exact HB4.out.size))
            have HM5 : Hid (mapLen w5 b + 1 = mapLen wo b) := by show _ = _; rw [mapLen_kept HR4.out.set HG5.out (by simp)]; exact HM4.out
            have hr2b : b < r2 ∧ r < r2 := by have h1 := HR4.out.lt; have h2 := HR4.out.set.lt; have h3 := HRR.out; omega
            go_loopw [] (fun wq => ∃ (left6 : Lit → Bool) (cnt6 : Nat), Hid (SetR wq b r2 n K1 left6 cnt6) ∧ Hid (∀ z, left6 (.string z) = true → K1 z = true) ∧ Hid (w5.grownBy wq (some r2))) (fun wq => wq.rangeLeft b r2)
            case atStart => exact ⟨left5, cnt5, HR5.out, fun z hz => by rw [← HLF5.out z]; exact hz, gb_refl _ _⟩
            case round =>
              obtain ⟨left6, cnt6, HR6, HLF6, HG6⟩ := hrel
              have hne1 : some b ≠ some r2 := fun e => by cases e; omega
              have hne2 : some r ≠ some r2 := fun e => by cases e; omega
              have HR6a : Hid (SetR wr b r n K1 left4 cnt4) := HR5a.out.kept HG6.out hne1 hne2
              have HV6 : Hid (Strs (b + 1) L' u6 wr) := HV5.out.kp HG6.out (fun q hq e => HR5.out.row HV5.out (by rw [hq]; exact e.symm))
              have HB6 : Hid (Below b w wr) := HB5.out.trans (gb_to HG6.out (Nat.le_of_lt hr2b.1) (by rw [HBE.out]; exact HB5.out.size))
              have HM6 : Hid (mapLen wr b + 1 = mapLen wo b) := by show _ = _; rw [mapLen_kept HR5.out.set HG6.out hne1]; exact HM5.out
              have HMX : Hid (MaxIs wr) := HM.out.below (by rw [← HBE.out]; exact HB6.out)
              go_wp2_with (at_next; refine next_set _ rfl _ rfl b r2 n K1 left6 cnt6 rfl HR6.out ?_ ?_)
              · intro _
                have hrd := HV6.out.rd
                obtain ⟨ux, hux⟩ : ∃ ux, ux = u6 := ⟨_, rfl⟩
                by_cases hex : ∃ o ∈ L', o <:+: x.data.toList
                · have hpos : 0 < (wix L' x.data.toList L'.length).length := len_wix.2 hex
                  have hle3 : (wix L' x.data.toList L'.length).length ≤ 3 := by have := wix_len L' x.data.toList L'.length; omega
                  obtain ⟨Z, hZ⟩ : ∃ Z, Z = wix L' x.data.toList L'.length := ⟨_, rfl⟩
                  have hwi := wordsIn_any x L' u6 wr (by omega) (by omega) HL4.out hrd HMX.out
                  rw [← hZ] at hwi hpos hle3
                  have HWI := Lib.hid hwi
                  have HEX := Lib.hid hex
                  have hzi : (0 : Int) < (Z.length : Int) := by omega
                  clear hwi hZ hex hrd hux
                  go_wp2_with (go_at_call 77; (refine HWI.out.mono ?_); rintro e w8 ⟨⟨u, rfl, hu⟩, b8⟩; obtain ⟨ua, uc, hue⟩ := ints_val hu; subst hue; have HB8 := Lib.hid b8; clear hu b8)
                  go_step3
                  have HV8 : Hid (Strs (b + 1) L' u6 w8) := HV6.out.below HB8.out
                  have HBb8 : Hid (Below b w w8) := HB6.out.trans (HB8.out.mono (by rw [HBE.out]; exact HB6.out.size))
                  have HS8 := (HR6.out.set.below HB8.out)
                  have HM8 : Hid (mapLen w8 b + 1 = mapLen wo b) := by show _ = _; rw [mapLen_kept HR6.out.set (below_gb HB8.out) (by simp)]; exact HM6.out
                  have HLW : LwI ts K1 L' := by
                    obtain ⟨o, ho, hi⟩ := HEX.out
                    rw [HK1.out]; exact HI3.out.drop (.inr ho) hi
                  refine And.intro rfl ?_
                  have hlt9 : mapLen w8 b < mapLen w1 b := by have h1 := HM8.out; have h2 := HLN3.out.2; omega
                  have hj9 : Hid (SetM w8 b n K1 ∧ LwI ts K1 L' ∧ Strs (b + 1) L' u6 w8 ∧ Below b w w8 ∧ L'.length + mapLen w8 b ≤ 3 ∧ n ≤ 10) := ⟨HS8, HLW, HV8.out, HBb8.out, (by have h1 := HM8.out; have h2 := HLN3.out.1; omega), hn10⟩
                  first
                  | exact And.intro ⟨K1, L', n, u6, _, _, _, _, _, _, _, _, _, _, _, _, _, _, _, _, _, _, _, _, _, _, _, _, _, _, _, _, _, _, _, _, _, _, _, _, _, _, _, _, _, _, _, _, _, _, rfl, hj9⟩ hlt9
                  | exact ⟨K1, L', n, u6, _, _, _, _, _, _, _, _, _, _, _, _, _, _, _, _, _, _, _, _, _, _, _, _, _, _, _, _, _, _, _, _, _, _, _, _, _, _, _, _, _, _, _, _, _, _, rfl, hj9⟩
                · have hz0 : (wix L' x.data.toList L'.length).length = 0 := by
                    have := mt len_wix.1 hex; omega
                  obtain ⟨Z, hZ⟩ : ∃ Z, Z = wix L' x.data.toList L'.length := ⟨_, rfl⟩
                  have hwi := wordsIn_any x L' u6 wr (by omega) (by omega) HL4.out hrd HMX.out
                  rw [← hZ] at hwi hz0
                  have HWI := Lib.hid hwi
                  have hzi : ¬ (0 : Int) < (Z.length : Int) := by omega
                  clear hwi hZ hex hrd hux
                  go_wp2_with (first
                    | (go_at_call 77; (refine HWI.out.mono ?_); rintro e w8 ⟨⟨u, rfl, hu⟩, b8⟩; obtain ⟨ua, uc, hue⟩ := ints_val hu; subst hue; have HB8 := Lib.hid b8; clear hu b8; have HV8 : Hid (Strs (b + 1) L' u6 w8) := HV6.out.below HB8.out; have HBb8 : Hid (Below b w w8) := HB6.out.trans (HB8.out.mono (by rw [HBE.out]; exact HB6.out.size)); have HR8 : Hid (SetR w8 b r n K1 left4 cnt4) := HR6a.out.kept (below_gb HB8.out) (by simp) (by simp); have HM8 : Hid (mapLen w8 b + 1 = mapLen wo b) := (by show _ = _; rw [mapLen_kept HR6.out.set (below_gb HB8.out) (by simp)]; exact HM6.out))
                    | (at_builtin; refine append_strsG _ rfl _ _ rfl (b + 1) L' u6 rfl (HV8.out.alloc _) _ [x.data.toList] rfl (news1 _ _ (x := x) (by simp)) (by simp; omega) (by rw [World.size_alloc]; have h1 := HR8.out.set.lt; omega) ?_; intro v9 w9 hs9 hb9 hg9; have HS9 := Lib.hid hs9; have HB9 := Lib.hid hb9; have HG9 := Lib.hid hg9; clear hs9 hb9 hg9))
                  have hob : ∀ q, u6.ownBlock = some q → b + 1 ≤ q := fun q hq => (World.ownsRow.lt HV8.out q hq).1
                  have hnb : some b ≠ u6.ownBlock := fun e => by have := hob b e.symm; omega
                  have hnr : some r ≠ u6.ownBlock := fun e => HR8.out.row HV8.out e.symm
                  have HR8a := HR8.out.kept (below_gb ((Below.refl _ _).alloc (Nat.le_refl _) (.cells #[.string x] 9))) (by simp) (by simp)
                  have HR9 := Lib.hid (HR8a.kept HG9.out hnb hnr)
                  have HM9 : Hid (mapLen w9 b + 1 = mapLen wo b) := by
                    show _ = _
                    rw [mapLen_kept HR8a.set HG9.out hnb, mapLen_kept HR8.out.set (below_gb ((Below.refl _ _).alloc (Nat.le_refl _) (.cells #[.string x] 9))) (by simp)]
                    exact HM8.out
                  go_roundw
                  case rel =>
                    refine ⟨K1, L' ++ [x.data.toList], left4, cnt4, HR9.out, ?_, ?_, HS9.out, ?_, ?_⟩
                    · show ∀ z, _
                      intro z
                      rw [HLF4.out z, HLF3a.out z, HLF3.out z, HK1.out]
                      unfold less
                      cases K' z <;> cases decide (z = x.data.toList) <;> rfl
                    · show LwI _ _ _
                      rw [HK1.out]; exact HI3.out.keep HKX.out
                    · show Below _ _ _
                      exact (HBb8.out.alloc (by rw [HBE.out]; exact HBb8.out.size) _).trans (HB9.out.mono (Nat.le_succ b))
                    · show _ ∧ _
                      have h1 := HM9.out; have h2 := HLN3.out
                      rw [List.length_append, List.length_singleton]
                      omega
                  case measure => rw [HR9.out.left_eq, HR3.out.left_eq]; have h1 := HLE4.out; have h2 := HLT.out; omega
              · intro y c2 w7 left7 cnt7 hys hly hr7 hlf7 hlt7 hg7 hs7 hen7
                have hKy := HLF6.out _ hly
                have HMX7 : Hid (MaxIs w7) := by
                  obtain ⟨m9, hm9⟩ := HMX.out
                  exact ⟨m9, (gb_cell hg7 (p := ⟨0, 0, none⟩) (cell_lt' hm9) (by have h1 := cell_lt' HM.out.choose_spec; have h2 := HBE.out; show (0 : Nat) ≠ r2; have h3 : (0 : Nat) < w.heap.size := h1; omega)).trans hm9⟩
                have HV7 : Hid (Strs (b + 1) L' u6 w7) := HV6.out.kp hg7 (fun q hq e => HR6.out.row HV6.out (by rw [hq]; exact e.symm))
                have HB7 : Hid (Below b w w7) := HB6.out.trans (gb_to hg7 (Nat.le_of_lt hr2b.1) (by rw [HBE.out]; exact HB6.out.size))
                have HM7 : Hid (mapLen w7 b + 1 = mapLen wo b) := by show _ = _; rw [mapLen_kept HR6.out.set hg7 hne1]; exact HM6.out
                have HR7 := Lib.hid hr7
                have HG7 := Lib.hid hg7
                have HKY := Lib.hid hKy
                have HLF7 : Hid (∀ z, left7 (.string z) = (left6 (.string z) && !decide (z = y.data.toList))) := hlf7
                have HLT7 := Lib.hid hlt7
                clear hr7 hlf7 hlt7 hg7 hs7 hly hKy
                by_cases hin : y.data.toList <:+: x.data.toList
                · have HC : Hid (decide (y.data.toList <:+: x.data.toList) = true) := decide_eq_true hin
                  have HLW : LwI ts K1 L' := by rw [HK1.out]; exact HI3.out.drop (.inl (by rw [← HK1.out]; exact HKY.out)) hin
                  clear hin
                  go_wp2_with (go_at_call 40; refine (cont_b x y true _ (by omega) HMX7.out HC.out).mono ?_; rintro e w' ⟨rfl, rfl⟩)
                  go_step3
                  refine And.intro rfl ?_
                  have hlt9 : mapLen w7 b < mapLen w1 b := by have h1 := HM7.out; have h2 := HLN3.out.2; omega
                  have hj9 : Hid (SetM w7 b n K1 ∧ LwI ts K1 L' ∧ Strs (b + 1) L' u6 w7 ∧ Below b w w7 ∧ L'.length + mapLen w7 b ≤ 3 ∧ n ≤ 10) := ⟨HR7.out.set, HLW, HV7.out, HB7.out, (by have h1 := HM7.out; have h2 := HLN3.out.1; omega), hn10⟩
                  first
                  | exact And.intro ⟨K1, L', n, u6, _, _, _, _, _, _, _, _, _, _, _, _, _, _, _, _, _, _, _, _, _, _, _, _, _, _, _, _, _, _, _, _, _, _, _, _, _, _, _, _, _, _, _, _, _, _, rfl, hj9⟩ hlt9
                  | exact ⟨K1, L', n, u6, _, _, _, _, _, _, _, _, _, _, _, _, _, _, _, _, _, _, _, _, _, _, _, _, _, _, _, _, _, _, _, _, _, _, _, _, _, _, _, _, _, _, _, _, _, _, rfl, hj9⟩
                · have HC : Hid (decide (y.data.toList <:+: x.data.toList) = false) := decide_eq_false hin
                  clear hin
                  go_wp2_with (go_at_call 40; refine (cont_b x y false _ (by omega) HMX7.out HC.out).mono ?_; rintro e w' ⟨rfl, rfl⟩)
                  go_roundw
                  case rel => exact ⟨left7, cnt7, HR7.out, (fun z hz => by rw [HLF7.out z, Bool.and_eq_true] at hz; exact HLF6.out z hz.1), gb_trans HG6.out HG7.out⟩
                  case measure => rw [HR7.out.left_eq, HR6.out.left_eq]; exact HLT7.out
  · rintro a' w1 ⟨K, L, n, vv, u0, u1, u2, u4, u5, u7, u8, u9, u10, u11, u12, u13, u14, u15, u16, u17, u18, u19, u20, u21, u22, u23, u24, u25, u26, u27, u28, u29, u30, u31, u32, u33, u34, u35, u36, u37, u38, u39, u40, u41, u42, u43, u44, u45, u46, u47, rfl, HJ⟩
    have HS := Lib.hid HJ.out.1
    have HI := Lib.hid HJ.out.2.1
    have HV1 := Lib.hid HJ.out.2.2.1
    have HB := Lib.hid HJ.out.2.2.2.1
    have HLN := Lib.hid HJ.out.2.2.2.2
    have hn10 := HLN.out.2
    clear HJ
    obtain ⟨r, hr⟩ : ∃ r, r = w1.heap.size := ⟨_, rfl⟩
    have HR := Lib.hid hr
    have HBR : Hid (b < r) := by show _ < _; rw [hr]; exact HS.out.lt
    clear hr
    go_wp2_with (at_range; refine range_set _ rfl _ rfl b n K rfl HS.out ?_; intro w2 left cnt hr2 hlf hg2 hs2; rw [← HR.out] at hr2 ⊢; have HR2 := Lib.hid hr2; have HLF := Lib.hid hlf; have HG2 := Lib.hid hg2; have HS2 := Lib.hid hs2; clear hr2 hlf hg2 hs2)
    go_frame
    go_loopw [6] (fun xv wr => ∃ (K' : List UInt8 → Bool) (L' : List (List UInt8)) (left' : Lit → Bool) (cnt' : Nat), Hid (SetR wr b r n K' left' cnt') ∧ Hid (∀ z, left' (.string z) = K' z) ∧ Hid (LwI ts K' L') ∧ Hid (Strs (b + 1) L' xv wr) ∧ Hid (Below b w wr) ∧ Hid (L'.length + mapLen wr b ≤ 3 ∧ mapLen wr b ≤ mapLen w1 b)) (fun _ wr => wr.rangeLeft b r)
    case atStart =>
      have hle : mapLen w2 b = mapLen w1 b := mapLen_kept HS.out HG2.out (by simp)
      refine ⟨K, L, left, cnt, HR2.out, HLF.out, HI.out, ?_, ?_, ?_⟩
      · exact HV1.out.below (gbB HG2.out)
      · exact HB.out.trans ((gbB HG2.out).mono (by rw [HBE.out]; exact HB.out.size))
      · show _ ∧ _; rw [hle]; exact ⟨HLN.out.1, Nat.le_refl _⟩
    case round =>
      obtain ⟨K', L', left', cnt', HR3, HLF3, HI3, HV3, HB3, HLN3⟩ := hrel
      clear HR2 HLF HI HV1 HB HLN HG2 HS2
      obtain ⟨wo, rfl⟩ : ∃ wo : World, wo = wr := ⟨_, rfl⟩
      go_wp2_with (at_next; refine next_set _ rfl _ rfl b r n K' left' cnt' rfl HR3.out ?_ ?_)
      · intro hl0
        have HSF : Hid (SameFree ts L') := HI3.out.done (fun z => by rw [← HLF3.out z]; exact hl0 z)
        have HLS := Lib.hid HI3.out.last
        have hL3 : L'.length ≤ 3 := by have := HLN3.out.1; omega
        have HB4 := Lib.hid HB3.out
        rcases HV3.out.2 with ⟨hnil, hz⟩ | ⟨g, cp, cur, hv, hbase, hgb, h1, h2, h3, h4⟩
        · subst hnil
          go_wp2_with (go_at_call 126; (refine (Tryd.slices_Sort_string_none none 0 _).mono ?_); rintro e w9 ⟨rfl, rfl⟩)
          simp only [Exit.jump]
          go_ret
          exact ⟨⟨L', _, rfl, by rw [← HBE.out]; exact HV3.out, HSF.out, hL3, HLS.out⟩, by rw [← HBE.out]; exact HB4.out⟩
        · subst hv
          have hgs := (Array.getElem?_eq_some_iff.1 hgb).1
          have HSO : Hid (Calls Tryd.prog 126 #[.slice (some ⟨g, 0, none⟩) L'.length cp] wo fun e w' => e = .returned (.tuple #[]) ∧ Strs (b + 1) (L'.mergeSort fun x y => decide (x ≤ y)) (.slice (some ⟨g, 0, none⟩) L'.length cp) w' ∧ wo.grownBy w' (some g)) := by
            refine (Tryd.slices_Sort_string g 0 cp L' wo (holds_of_block hgb (by show cur.toList.take L'.length = L'.map strV; simpa using h4)) hgs (by omega)).mono ?_
            rintro e w' ⟨rfl, n9, os9, rfl⟩
            refine ⟨rfl, ?_, grownBy_sorted _⟩
            have := ownsRow_sorted (n := n9) (os := os9) (ts := L'.mergeSort fun x y => decide (x ≤ y)) (ss := L') (by simp) hbase hgb h1 h2 h3
            unfold Strs
            rw [List.length_mergeSort]
            exact this
          have hgB : b + 1 ≤ g := hbase
          clear hgb h1 h2 h3 h4 hgs hbase
          go_wp2_with (go_at_call 126; (refine HSO.out.mono ?_); rintro e w9 ⟨rfl, hs9, hg9⟩; have HS9 := Lib.hid hs9; have HG9 := Lib.hid hg9; clear hs9 hg9)
          simp only [Exit.jump]
          go_ret
          refine ⟨⟨_, _, rfl, by rw [← HBE.out]; exact HS9.out, HSF.out.trans (SameFree.perm (List.mergeSort_perm _ _).symm), by rw [List.length_mergeSort]; exact hL3, fun x hx => HLS.out x (List.mem_mergeSort.1 hx)⟩, ?_⟩
          rw [← HBE.out]
          exact HB4.out.trans (gb_to HG9.out (by omega) (by rw [HBE.out]; exact HB4.out.size))
      · intro x c w3 left3 cnt3 hxs hlx hr3 hlf3 hlt3 hg3 hs3 hen
        have hKx : K' x.data.toList = true := by rw [← HLF3.out]; exact hlx
        have hxmem := HI3.out.keys _ hKx
        have hx4 : x.size ≤ 4 := by
          have h1 : x.data.toList.length = x.size := by simp
          have := HT.out _ hxmem
          omega
        have HL4 : Hid (∀ i, i < L'.length → (L'.getD i []).length ≤ 1048576) := fun i hi => by
          rw [List.getD_eq_getElem?_getD, List.getElem?_eq_getElem hi]
          have := HT.out _ (HI3.out.last _ (List.getElem_mem hi))
          show L'[i].length ≤ _
          omega
        have hL3 : L'.length ≤ 3 := by have := HLN3.out.1; omega
        obtain ⟨K1, hK1⟩ : ∃ K1, K1 = less K' x.data.toList := ⟨_, rfl⟩
        have HK1 := Lib.hid hK1
        have HKX := Lib.hid hKx
        have hbr : b ≠ r := fun e => HR3.out.ne e.symm
        have HV3a : Hid (Strs (b + 1) L' u6 w3) := HV3.out.kp hg3 (fun q hq e => HR3.out.row HV3.out (by rw [hq]; exact e.symm))
        have HB3a : Hid (Below b w w3) := HB3.out.trans (gb_to hg3 (Nat.le_of_lt HBR.out) (by rw [HBE.out]; exact HB3.out.size))
        have HML : Hid (mapLen w3 b = mapLen wo b) := mapLen_kept HR3.out.set hg3 (by simp [hbr])
        have HR3a := Lib.hid hr3
        have HLF3a : Hid (∀ z, left3 (.string z) = (left' (.string z) && !decide (z = x.data.toList))) := hlf3
        have HLT := Lib.hid hlt3
        clear hK1 hKx hxmem hlx hr3 hlf3 hlt3 hg3 hs3
        go_wp2_with (first
          | (at_delete; refine drop_set _ rfl _ _ rfl b r n K' left3 cnt3 rfl HR3a.out x rfl hxs HKX.out ?_; intro w4 left4 cnt4 hr4 hlf4 hle4 hg4 hs4 hml4; rw [← HK1.out] at hr4; have HR4 := Lib.hid hr4; have HLF4 := Lib.hid hlf4; have HLE4 := Lib.hid hle4; have HV4 : Hid (Strs (b + 1) L' u6 w4) := HV3a.out.kp hg4 (fun q hq e => by cases e; have := (World.ownsRow.lt HV3a.out b hq).1; omega); have HB4 : Hid (Below b w w4) := HB3a.out.trans (gb_to hg4 (Nat.le_refl _) (by rw [HBE.out]; exact HB3a.out.size)); have HM4 : Hid (mapLen w4 b + 1 = mapLen wo b) := (by show _ = _; rw [hml4, HML.out]); clear hr4 hlf4 hle4 hg4 hs4 hml4; obtain ⟨r2, hr2⟩ : ∃ r2, r2 = w4.heap.size := ⟨_, rfl⟩; have HRR := Lib.hid hr2; clear hr2)
          | (at_range; refine range_set _ rfl _ rfl b n K1 rfl HR4.out.set ?_; intro w5 left5 cnt5 hr5 hlf5 hg5 hs5; rw [← HRR.out] at hr5 ⊢; have HR5 := Lib.hid hr5; have HLF5 := Lib.hid hlf5; have HG5 := Lib.hid hg5; clear hr5 hlf5 hg5 hs5))
        go_frame
        have HR5a : Hid (SetR w5 b r n K1 left4 cnt4) := HR4.out.kept HG5.out (by simp) (by simp)
        have HV5 : Hid (Strs (b + 1) L' u6 w5) := HV4.out.below (gbB HG5.out)
        have HB5 : Hid (Below b w w5) := HB4.out.trans ((gbB HG5.out).mono (by rw [HBE.out]; exact HB4.out.size))
        have HM5 : Hid (mapLen w5 b + 1 = mapLen wo b) := by show _ = _; rw [mapLen_kept HR4.out.set HG5.out (by simp)]; exact HM4.out
        have hr2b : b < r2 ∧ r < r2 := by have h1 := HR4.out.lt; have h2 := HR4.out.set.lt; have h3 := HRR.out; omega
        go_loopw [] (fun wq => ∃ (left6 : Lit → Bool) (cnt6 : Nat), Hid (SetR wq b r2 n K1 left6 cnt6) ∧ Hid (∀ z, left6 (.string z) = true → K1 z = true) ∧ Hid (w5.grownBy wq (some r2))) (fun wq => wq.rangeLeft b r2)
        case atStart => exact ⟨left5, cnt5, HR5.out, fun z hz => by rw [← HLF5.out z]; exact hz, gb_refl _ _⟩
        case round =>
          obtain ⟨left6, cnt6, HR6, HLF6, HG6⟩ := hrel
          have hne1 : some b ≠ some r2 := fun e => by cases e; omega
          have hne2 : some r ≠ some r2 := fun e => by cases e; omega
          have HR6a : Hid (SetR wr b r n K1 left4 cnt4) := HR5a.out.kept HG6.out hne1 hne2
          have HV6 : Hid (Strs (b + 1) L' u6 wr) := HV5.out.kp HG6.out (fun q hq e => HR5.out.row HV5.out (by rw [hq]; exact e.symm))
          have HB6 : Hid (Below b w wr) := HB5.out.trans (gb_to HG6.out (Nat.le_of_lt hr2b.1) (by rw [HBE.out]; exact HB5.out.size))
          have HM6 : Hid (mapLen wr b + 1 = mapLen wo b) := by show _ = _; rw [mapLen_kept HR5.out.set HG6.out hne1]; exact HM5.out
          have HMX : Hid (MaxIs wr) := HM.out.below (by rw [← HBE.out]; exact HB6.out)
          go_wp2_with (at_next; refine next_set _ rfl _ rfl b r2 n K1 left6 cnt6 rfl HR6.out ?_ ?_)
          · intro _
            have hrd := HV6.out.rd
            obtain ⟨ux, hux⟩ : ∃ ux, ux = u6 := ⟨_, rfl⟩
            by_cases hex : ∃ o ∈ L', o <:+: x.data.toList
            · have hpos : 0 < (wix L' x.data.toList L'.length).length := len_wix.2 hex
              have hle3 : (wix L' x.data.toList L'.length).length ≤ 3 := by have := wix_len L' x.data.toList L'.length; omega
              obtain ⟨Z, hZ⟩ : ∃ Z, Z = wix L' x.data.toList L'.length := ⟨_, rfl⟩
              have hwi := wordsIn_any x L' u6 wr (by omega) (by omega) HL4.out hrd HMX.out
              rw [← hZ] at hwi hpos hle3
              have HWI := Lib.hid hwi
              have HEX := Lib.hid hex
              have hzi : (0 : Int) < (Z.length : Int) := by omega
              clear hwi hZ hex hrd hux
              go_wp2_with (go_at_call 77; (refine HWI.out.mono ?_); rintro e w8 ⟨⟨u, rfl, hu⟩, b8⟩; obtain ⟨ua, uc, hue⟩ := ints_val hu; subst hue; have HB8 := Lib.hid b8; clear hu b8)
              go_step3
              have HV8 : Hid (Strs (b + 1) L' u6 w8) := HV6.out.below HB8.out
              have HBb8 : Hid (Below b w w8) := HB6.out.trans (HB8.out.mono (by rw [HBE.out]; exact HB6.out.size))
              have HS8 := (HR6.out.set.below HB8.out)
              have HM8 : Hid (mapLen w8 b + 1 = mapLen wo b) := by show _ = _; rw [mapLen_kept HR6.out.set (below_gb HB8.out) (by simp)]; exact HM6.out
              have HLW : LwI ts K1 L' := by
                obtain ⟨o, ho, hi⟩ := HEX.out
                rw [HK1.out]; exact HI3.out.drop (.inr ho) hi
              refine And.intro rfl ?_
              have hlt9 : mapLen w8 b < mapLen w1 b := by have h1 := HM8.out; have h2 := HLN3.out.2; omega
              have hj9 : Hid (SetM w8 b n K1 ∧ LwI ts K1 L' ∧ Strs (b + 1) L' u6 w8 ∧ Below b w w8 ∧ L'.length + mapLen w8 b ≤ 3 ∧ n ≤ 10) := ⟨HS8, HLW, HV8.out, HBb8.out, (by have h1 := HM8.out; have h2 := HLN3.out.1; omega), hn10⟩
              first
              | exact And.intro ⟨K1, L', n, u6, _, _, _, _, _, _, _, _, _, _, _, _, _, _, _, _, _, _, _, _, _, _, _, _, _, _, _, _, _, _, _, _, _, _, _, _, _, _, _, _, _, _, _, _, _, _, rfl, hj9⟩ hlt9
              | exact ⟨K1, L', n, u6, _, _, _, _, _, _, _, _, _, _, _, _, _, _, _, _, _, _, _, _, _, _, _, _, _, _, _, _, _, _, _, _, _, _, _, _, _, _, _, _, _, _, _, _, _, _, rfl, hj9⟩
            · have hz0 : (wix L' x.data.toList L'.length).length = 0 := by
                have := mt len_wix.1 hex; omega
              obtain ⟨Z, hZ⟩ : ∃ Z, Z = wix L' x.data.toList L'.length := ⟨_, rfl⟩
              have hwi := wordsIn_any x L' u6 wr (by omega) (by omega) HL4.out hrd HMX.out
              rw [← hZ] at hwi hz0
              have HWI := Lib.hid hwi
              have hzi : ¬ (0 : Int) < (Z.length : Int) := by omega
              clear hwi hZ hex hrd hux
              go_wp2_with (first
                | (go_at_call 77; (refine HWI.out.mono ?_); rintro e w8 ⟨⟨u, rfl, hu⟩, b8⟩; obtain ⟨ua, uc, hue⟩ := ints_val hu; subst hue; have HB8 := Lib.hid b8; clear hu b8; have HV8 : Hid (Strs (b + 1) L' u6 w8) := HV6.out.below HB8.out; have HBb8 : Hid (Below b w w8) := HB6.out.trans (HB8.out.mono (by rw [HBE.out]; exact HB6.out.size)); have HR8 : Hid (SetR w8 b r n K1 left4 cnt4) := HR6a.out.kept (below_gb HB8.out) (by simp) (by simp); have HM8 : Hid (mapLen w8 b + 1 = mapLen wo b) := (by show _ = _; rw [mapLen_kept HR6.out.set (below_gb HB8.out) (by simp)]; exact HM6.out))
                | (at_builtin; refine append_strsG _ rfl _ _ rfl (b + 1) L' u6 rfl (HV8.out.alloc _) _ [x.data.toList] rfl (news1 _ _ (x := x) (by simp)) (by simp; omega) (by rw [World.size_alloc]; have h1 := HR8.out.set.lt; omega) ?_; intro v9 w9 hs9 hb9 hg9; have HS9 := Lib.hid hs9; have HB9 := Lib.hid hb9; have HG9 := Lib.hid hg9; clear hs9 hb9 hg9))
              have hob : ∀ q, u6.ownBlock = some q → b + 1 ≤ q := fun q hq => (World.ownsRow.lt HV8.out q hq).1
              have hnb : some b ≠ u6.ownBlock := fun e => by have := hob b e.symm; omega
              have hnr : some r ≠ u6.ownBlock := fun e => HR8.out.row HV8.out e.symm
              have HR8a := HR8.out.kept (below_gb ((Below.refl _ _).alloc (Nat.le_refl _) (.cells #[.string x] 9))) (by simp) (by simp)
              have HR9 := Lib.hid (HR8a.kept HG9.out hnb hnr)
              have HM9 : Hid (mapLen w9 b + 1 = mapLen wo b) := by
                show _ = _
                rw [mapLen_kept HR8a.set HG9.out hnb, mapLen_kept HR8.out.set (below_gb ((Below.refl _ _).alloc (Nat.le_refl _) (.cells #[.string x] 9))) (by simp)]
                exact HM8.out
              go_roundw
              case rel =>
                refine ⟨K1, L' ++ [x.data.toList], left4, cnt4, HR9.out, ?_, ?_, HS9.out, ?_, ?_⟩
                · show ∀ z, _
                  intro z
                  rw [HLF4.out z, HLF3a.out z, HLF3.out z, HK1.out]
                  unfold less
                  cases K' z <;> cases decide (z = x.data.toList) <;> rfl
                · show LwI _ _ _
                  rw [HK1.out]; exact HI3.out.keep HKX.out
                · show Below _ _ _
                  exact (HBb8.out.alloc (by rw [HBE.out]; exact HBb8.out.size) _).trans (HB9.out.mono (Nat.le_succ b))
                · show _ ∧ _
                  have h1 := HM9.out; have h2 := HLN3.out
                  rw [List.length_append, List.length_singleton]
                  omega
              case measure => rw [HR9.out.left_eq, HR3.out.left_eq]; have h1 := HLE4.out; have h2 := HLT.out; omega
          · intro y c2 w7 left7 cnt7 hys hly hr7 hlf7 hlt7 hg7 hs7 hen7
            have hKy := HLF6.out _ hly
            have HMX7 : Hid (MaxIs w7) := by
              obtain ⟨m9, hm9⟩ := HMX.out
              exact ⟨m9, (gb_cell hg7 (p := ⟨0, 0, none⟩) (cell_lt' hm9) (by have h1 := cell_lt' HM.out.choose_spec; have h2 := HBE.out; show (0 : Nat) ≠ r2; have h3 : (0 : Nat) < w.heap.size := h1; omega)).trans hm9⟩
            have HV7 : Hid (Strs (b + 1) L' u6 w7) := HV6.out.kp hg7 (fun q hq e => HR6.out.row HV6.out (by rw [hq]; exact e.symm))
            have HB7 : Hid (Below b w w7) := HB6.out.trans (gb_to hg7 (Nat.le_of_lt hr2b.1) (by rw [HBE.out]; exact HB6.out.size))
            have HM7 : Hid (mapLen w7 b + 1 = mapLen wo b) := by show _ = _; rw [mapLen_kept HR6.out.set hg7 hne1]; exact HM6.out
            have HR7 := Lib.hid hr7
            have HG7 := Lib.hid hg7
            have HKY := Lib.hid hKy
            have HLF7 : Hid (∀ z, left7 (.string z) = (left6 (.string z) && !decide (z = y.data.toList))) := hlf7
            have HLT7 := Lib.hid hlt7
            clear hr7 hlf7 hlt7 hg7 hs7 hly hKy
            by_cases hin : y.data.toList <:+: x.data.toList
            · have HC : Hid (decide (y.data.toList <:+: x.data.toList) = true) := decide_eq_true hin
              have HLW : LwI ts K1 L' := by rw [HK1.out]; exact HI3.out.drop (.inl (by rw [← HK1.out]; exact HKY.out)) hin
              clear hin
              go_wp2_with (go_at_call 40; refine (cont_b x y true _ (by omega) HMX7.out HC.out).mono ?_; rintro e w' ⟨rfl, rfl⟩)
              go_step3
              refine And.intro rfl ?_
              have hlt9 : mapLen w7 b < mapLen w1 b := by have h1 := HM7.out; have h2 := HLN3.out.2; omega
              have hj9 : Hid (SetM w7 b n K1 ∧ LwI ts K1 L' ∧ Strs (b + 1) L' u6 w7 ∧ Below b w w7 ∧ L'.length + mapLen w7 b ≤ 3 ∧ n ≤ 10) := ⟨HR7.out.set, HLW, HV7.out, HB7.out, (by have h1 := HM7.out; have h2 := HLN3.out.1; omega), hn10⟩
              first
              | exact And.intro ⟨K1, L', n, u6, _, _, _, _, _, _, _, _, _, _, _, _, _, _, _, _, _, _, _, _, _, _, _, _, _, _, _, _, _, _, _, _, _, _, _, _, _, _, _, _, _, _, _, _, _, _, rfl, hj9⟩ hlt9
              | exact ⟨K1, L', n, u6, _, _, _, _, _, _, _, _, _, _, _, _, _, _, _, _, _, _, _, _, _, _, _, _, _, _, _, _, _, _, _, _, _, _, _, _, _, _, _, _, _, _, _, _, _, _, rfl, hj9⟩
            · have HC : Hid (decide (y.data.toList <:+: x.data.toList) = false) := decide_eq_false hin
              clear hin
              go_wp2_with (go_at_call 40; refine (cont_b x y false _ (by omega) HMX7.out HC.out).mono ?_; rintro e w' ⟨rfl, rfl⟩)
              go_roundw
              case rel => exact ⟨left7, cnt7, HR7.out, (fun z hz => by rw [HLF7.out z, Bool.and_eq_true] at hz; exact HLF6.out z hz.1), gb_trans HG6.out HG7.out⟩
              case measure => rw [HR7.out.left_eq, HR6.out.left_eq]; exact HLT7.out
end Go.Proofs.YtaomcimmhlpflaaDoor
