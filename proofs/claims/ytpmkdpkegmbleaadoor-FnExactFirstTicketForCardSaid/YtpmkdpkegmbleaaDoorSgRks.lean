/-
  Slices of reckonings in rows of the call's own.
-/
import Derived.Test.YtpmkdpkegmbleaaDoorSgRk
import Derived.Test.YtpmkdpkegmbleaaDoorSgStrs
namespace Go.Proofs.YtpmkdpkegmbleaaDoor
open Go.RowKit

/-- A reckoning: where the value stands, and how many signs were met. -/
abbrev Sr := Rk × Int
def srV (q : Sr) : Value := .agg #[.int .i64 q.1.S, .int .i64 q.1.P, .int .i64 q.1.N, .int .i64 q.2]
def cs4 (q : Sr) : List Value := [.int .i64 q.1.S, .int .i64 q.1.P, .int .i64 q.1.N, .int .i64 q.2]
/-- The reckoning of a text. -/
def sr (t : List UInt8) : Sr := (rk t, (nSg t : Int))
/-- A value is a slice of these reckonings, in a row of the call's own from block B on. -/
def Rks (B : Nat) (rs : List Sr) (v : Value) (w : World) : Prop := w.ownsRow B 35 4 v rs.length (rs.flatMap cs4)
theorem cs4_get (rs : List Sr) (i j : Nat) (hi : i < rs.length) (hj : j < 4) : (rs.flatMap cs4)[4 * i + j]? = (cs4 rs[i])[j]? := by
  rw [flat_get 4 (by omega) cs4 (fun _ => rfl), show (4 * i + j) / 4 = i by omega, show (4 * i + j) % 4 = j by omega, List.getElem?_eq_getElem hi]; rfl
/-- What the cells of one hold. -/
def Rat (w : World) (g i : Nat) (q : Sr) : Prop := w.cell? ⟨g, i * 4, none⟩ = some (.int .i64 q.1.S) ∧ w.cell? ⟨g, i * 4 + 1, none⟩ = some (.int .i64 q.1.P) ∧ w.cell? ⟨g, i * 4 + 2, none⟩ = some (.int .i64 q.1.N) ∧ w.cell? ⟨g, i * 4 + 3, none⟩ = some (.int .i64 q.2)
theorem Rks.form {B : Nat} {rs : List Sr} {v : Value} {w : World} (h : Rks B rs v w) (h0 : 0 < rs.length) :
    ∃ g cap, v = .slice (some ⟨g, 0, none⟩) rs.length cap ∧ B ≤ g ∧ g < w.heap.size ∧ (∀ i (hi : i < rs.length), Rat w g i rs[i]) := by
  have h' := h
  rcases h.2 with ⟨hv, hn⟩ | ⟨g, cap, cur, hv, hb, hg, _⟩
  · omega
  · refine ⟨g, cap, hv, hb, (Array.getElem?_eq_some_iff.1 hg).1, fun i hi => ?_⟩
    unfold Rks at h'
    rw [hv] at h'
    have hl : (rs.flatMap cs4).length = rs.length * 4 := h'.1
    have key : ∀ j (hj : j < 4), w.cell? ⟨g, i * 4 + j, none⟩ = (cs4 rs[i])[j]? := by
      intro j hj
      rw [h'.cellAt (i * 4 + j) (by omega), Nat.mul_comm i 4, ← cs4_get rs i j hi hj]
    exact ⟨key 0 (by omega), key 1 (by omega), key 2 (by omega), key 3 (by omega)⟩
theorem Rks.below {B : Nat} {rs : List Sr} {v : Value} {w w' : World} (h : Rks B rs v w) (k : Below w.heap.size w w') : Rks B rs v w' :=
  World.ownsRow.kept h (row := none) ⟨k.os, k.tape, k.output, k.size, fun i hi _ => k.block i hi⟩ (by cases v.ownBlock <;> simp)
theorem Rks.mono {B B' : Nat} {rs : List Sr} {v : Value} {w : World} (h : Rks B rs v w) (hB : B' ≤ B) : Rks B' rs v w := by
  refine ⟨h.1, ?_⟩
  rcases h.2 with h0 | ⟨g, cap, cur, hv, hb, r⟩
  · exact .inl h0
  · exact .inr ⟨g, cap, cur, hv, by omega, r⟩
theorem Rks.lt {B : Nat} {rs : List Sr} {g n cap : Nat} {w : World} (h : Rks B rs (.slice (some ⟨g, 0, none⟩) n cap) w) : g < w.heap.size := (World.ownsRow.lt h g rfl).2
theorem Rat.below {w w' : World} {g i : Nat} {q : Sr} (h : Rat w g i q) {B : Nat} (k : Below B w w') (hg : g < B) : Rat w' g i q :=
  ⟨(k.cell hg).trans h.1, (k.cell hg).trans h.2.1, (k.cell hg).trans h.2.2.1, (k.cell hg).trans h.2.2.2⟩
theorem Rks.one (q : Sr) (w : World) : Rks w.heap.size [q] (.slice (some ⟨w.heap.size, 0, none⟩) 1 1) (w.alloc (.cells #[.int .i64 q.1.S, .int .i64 q.1.P, .int .i64 q.1.N, .int .i64 q.2] 35)) :=
  ⟨rfl, .inr ⟨w.heap.size, 1, _, rfl, Nat.le_refl _, (MapKept.heap_alloc w _).1, Nat.le_refl _, by unfold maxLen; omega, rfl, rfl⟩⟩
theorem Rb.grown {w w' : World} {b : Nat} {S P N C : Int} (h : Rb w b S P N C) {row : Option Nat} (k : w.grownBy w' row) (hb : b < w.heap.size) (hr : some b ≠ row) : Rb w' b S P N C := by
  have e : w'.heap[b]? = w.heap[b]? := k.block b hb hr
  have ce : ∀ o, w'.cell? ⟨b, o, none⟩ = w.cell? ⟨b, o, none⟩ := fun o => by unfold World.cell?; rw [e]
  have fe : ∀ o, w'.frozen? ⟨b, o, none⟩ = w.frozen? ⟨b, o, none⟩ := fun o => by unfold World.frozen?; rw [e]
  exact ⟨(ce 0).trans h.c0, (ce 1).trans h.c1, (ce 2).trans h.c2, (ce 3).trans h.c3, (fe 0).trans h.f0, (fe 1).trans h.f1, (fe 2).trans h.f2, (fe 3).trans h.f3⟩
theorem newsq (w : World) (ty : TypeId) (q : Sr) : ∀ (j : Nat) (u : Value), (cs4 q)[j]? = some u → (w.alloc (.cells #[.int .i64 q.1.S, .int .i64 q.1.P, .int .i64 q.1.N, .int .i64 q.2] ty)).cell? ⟨w.heap.size, j, none⟩ = some u := by
  intro j u hj
  match j, hj with
  | 0, hj => simp [cs4] at hj; subst hj; simp
  | 1, hj => simp [cs4] at hj; subst hj; simp
  | 2, hj => simp [cs4] at hj; subst hj; simp
  | 3, hj => simp [cs4] at hj; subst hj; simp
theorem step_append_rk (w : World) {ops : Array Oper} {o : Oper} {a : Act} {K : Act → World → Prop} {Q : Exit → Act → World → Prop} {E : Prop} (hgd : o.guard = none) (s x : Operand)
    (ho : o.op = .call { callee := .builtin .append, args := #[s, x], argTypes := #[32, 32] })
    (B : Nat) (rs : List Sr) (v : Value) (hs : a.eval s = v) (hown : Rks B rs v w) (k : Nat) (q : Sr) (hx : a.eval x = .slice (some ⟨k, 0, none⟩) 1 1) (hc : ∀ j u, (cs4 q)[j]? = some u → w.cell? ⟨k, j, none⟩ = some u)
    (hlen : rs.length ≤ 1000000) (hB : B ≤ w.heap.size)
    (h : ∀ g cap w', Rks B (rs ++ [q]) (.slice (some ⟨g, 0, none⟩) (rs.length + 1) cap) w' → w.grownBy w' v.ownBlock → (v.ownBlock = some g ∨ g = w.heap.size) → K (a.put o.dst (.slice (some ⟨g, 0, none⟩) (rs.length + 1) cap)) w') :
    if Region.wanted o (yielded ops a.tmps) = true then Oper.wp Tryd.prog o a w K Q else E := by
  obtain ⟨i0, hi, hz0, hz1, hz2⟩ := info_parts (show (Tryd.prog.info? 35).map (fun i => (i.zero, i.size, i.bytes)) = some (some (.agg #[.int .i64 0, .int .i64 0, .int .i64 0, .int .i64 0]), 4, 32) by kernel_rfl)
  refine step_append_lies w hgd s x 32 ho B 35 i0 (.agg #[.int .i64 0, .int .i64 0, .int .i64 0, .int .i64 0]) 4 32 Tryd.underlying32 hi hz0 hz1 hz2 rfl (by decide) v rs.length (rs.flatMap cs4) hs hown ⟨k, 0, none⟩ 1 1 (cs4 q) hx rfl ?_ ?_ (by omega) ?_ ?_ hB _ rfl ?_
  · intro j u hj
    have := hc j u hj
    cases j <;> simpa [Addr.add] using this
  · intro u hu; simp [cs4] at hu; rcases hu with rfl | rfl | rfl | rfl <;> rfl
  · unfold maxLen; omega
  · omega
  · intro g cap w' h1 hg hat _
    refine h g cap w' ?_ hg hat
    unfold Rks; simpa using h1
theorem beh_ap (r : Rk) (C z x : Int) (w : World) (hz : z = 32 ∨ z = 42 ∨ z = 43 ∨ z = 45) (hr : r.Fine) (hC : 0 ≤ C ∧ C ≤ 1000) (hx : 48 ≤ x ∧ x ≤ 57) :
    Calls Tryd.prog 18 #[.agg #[.int .i64 r.S, .int .i64 r.P, .int .i64 r.N, .int .i64 C], .int .u8 z, .int .u8 x] w fun e w' => e = .returned (srV (⟨(ap z r).S, (ap z r).P, 10 * (ap z r).N + (x - 48)⟩, C + if z = 32 then 0 else 1)) ∧ Below w.heap.size w w' := by
  have a1 := hr.n0; have a2 := hr.n1; have a3 := hr.s; have a4 := hr.p; have a5 := hr.pn
  have b1 : -100000000 ≤ r.P * r.N ∧ r.P * r.N ≤ 100000000 := ⟨by omega, by omega⟩
  have b2 : -100000000 ≤ r.S ∧ r.S ≤ 100000000 := ⟨by omega, by omega⟩
  have b3 : -100000000 ≤ r.P ∧ r.P ≤ 100000000 := ⟨by omega, by omega⟩
  have b4 : -100000000 ≤ r.N ∧ r.N ≤ 100000000 := ⟨by omega, by omega⟩
  rcases hz with rfl | rfl | rfl | rfl
  · refine (beh_none r.S r.P r.N C (r.P * r.N) x w rfl b1 b2 b3 b4 hC hx).mono ?_
    rintro e w' ⟨rfl, hb⟩
    exact ⟨by simp [srV, ap], hb⟩
  · refine (beh_times r.S r.P r.N C (r.P * r.N) x w rfl b1 b2 b3 b4 hC hx).mono ?_
    rintro e w' ⟨rfl, hb⟩
    exact ⟨by simp [srV, ap], hb⟩
  · refine (beh_plus r.S r.P r.N C (r.P * r.N) x w rfl b1 b2 b3 b4 hC hx).mono ?_
    rintro e w' ⟨rfl, hb⟩
    exact ⟨by simp [srV, ap], hb⟩
  · refine (beh_minus r.S r.P r.N C (r.P * r.N) x w rfl b1 b2 b3 b4 hC hx).mono ?_
    rintro e w' ⟨rfl, hb⟩
    exact ⟨by simp [srV, ap], hb⟩
theorem beh_q (q : Sr) (r : Rk) (C z x : Int) (w : World) (hq : q = (⟨(ap z r).S, (ap z r).P, 10 * (ap z r).N + (x - 48)⟩, C + if z = 32 then 0 else 1)) (hz : z = 32 ∨ z = 42 ∨ z = 43 ∨ z = 45) (hr : r.Fine) (hC : 0 ≤ C ∧ C ≤ 1000) (hx : 48 ≤ x ∧ x ≤ 57) :
    Calls Tryd.prog 18 #[.agg #[.int .i64 r.S, .int .i64 r.P, .int .i64 r.N, .int .i64 C], .int .u8 z, .int .u8 x] w fun e w' => e = .returned (.agg #[.int .i64 q.1.S, .int .i64 q.1.P, .int .i64 q.1.N, .int .i64 q.2]) ∧ Below w.heap.size w w' := by
  subst hq
  exact beh_ap r C z x w hz hr hC hx
/-- The signs as a text. -/
def sbs (plain : Bool) : ByteArray := if plain then ⟨#[43, 45, 32]⟩ else ⟨#[42, 43, 45, 32]⟩
theorem sbs_size (plain : Bool) : (sbs plain).size = sgsN plain := by cases plain <;> rfl
theorem sbs_step (plain : Bool) (t : List UInt8) (d : UInt8) (hd : dgB d = true) (g : ByteArray) (hg : g = sbs plain) (m : Nat) (hm : m < g.size) :
    ((g[m].toNat : Int) = 32 ∨ (g[m].toNat : Int) = 42 ∨ (g[m].toNat : Int) = 43 ∨ (g[m].toNat : Int) = 45) ∧
    ((⟨(ap (g[m].toNat : Int) (rk t)).S, (ap (g[m].toNat : Int) (rk t)).P, 10 * (ap (g[m].toNat : Int) (rk t)).N + ((d.toNat : Int) - 48)⟩, (nSg t : Int) + if (g[m].toNat : Int) = 32 then 0 else 1) : Sr) = sr (t ++ (sgs plain).getD m [] ++ [d]) := by
  have key : ∀ (c : UInt8) (u : List UInt8), ((c = 32 ∧ u = []) ∨ (c = 42 ∧ u = [42]) ∨ (c = 43 ∧ u = [43]) ∨ (c = 45 ∧ u = [45])) →
      ((c.toNat : Int) = 32 ∨ (c.toNat : Int) = 42 ∨ (c.toNat : Int) = 43 ∨ (c.toNat : Int) = 45) ∧
      ((⟨(ap (c.toNat : Int) (rk t)).S, (ap (c.toNat : Int) (rk t)).P, 10 * (ap (c.toNat : Int) (rk t)).N + ((d.toNat : Int) - 48)⟩, (nSg t : Int) + if (c.toNat : Int) = 32 then 0 else 1) : Sr) = sr (t ++ u ++ [d]) := by
    intro c u h
    rcases h with ⟨rfl, rfl⟩ | ⟨rfl, rfl⟩ | ⟨rfl, rfl⟩ | ⟨rfl, rfl⟩
    · refine ⟨.inl rfl, ?_⟩
      rw [List.append_nil, sr, rk_none t d hd, nSg_dig t d hd]; simp [ap, dv]
    · refine ⟨.inr (.inl rfl), ?_⟩
      rw [sr, rk_times t d hd, nSg_sd t 42 d (by decide) hd]; simp [ap, dv]
    · refine ⟨.inr (.inr (.inl rfl)), ?_⟩
      rw [sr, rk_plus t d hd, nSg_sd t 43 d (by decide) hd]; simp [ap, dv]
    · refine ⟨.inr (.inr (.inr rfl)), ?_⟩
      rw [sr, rk_minus t d hd, nSg_sd t 45 d (by decide) hd]; simp [ap, dv]
  subst hg
  refine key _ _ ?_
  cases plain with
  | true =>
    match m, hm with
    | 0, _ => exact .inr (.inr (.inl ⟨rfl, rfl⟩))
    | 1, _ => exact .inr (.inr (.inr ⟨rfl, rfl⟩))
    | 2, _ => exact .inl ⟨rfl, rfl⟩
  | false =>
    match m, hm with
    | 0, _ => exact .inr (.inl ⟨rfl, rfl⟩)
    | 1, _ => exact .inr (.inr (.inl ⟨rfl, rfl⟩))
    | 2, _ => exact .inr (.inr (.inr ⟨rfl, rfl⟩))
    | 3, _ => exact .inl ⟨rfl, rfl⟩
end Go.Proofs.YtpmkdpkegmbleaaDoor
