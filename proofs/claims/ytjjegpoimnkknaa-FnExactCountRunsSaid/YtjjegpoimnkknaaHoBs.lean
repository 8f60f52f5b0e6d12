/-
  Rows with a balanced house: the program's look.
-/
import Derived.Test.YtjjegpoimnkknaaHoRw
import Derived.Test.YtjjegpoimnkknaaHoBf
namespace Go.Proofs.Ytjjegpoimnkknaa
open Go.RowKit

/-- What lies in two new blocks: a row of two numbers, and the slice over it. -/
theorem two_new (w : World) (h l : Int) (W : World) (hW : W = (w.alloc (.cells #[.int .i64 h, .int .i64 l] 3)).alloc (.cells #[.slice (some ⟨w.heap.size, 0, none⟩) 2 2] 42)) :
    W.cell? ⟨w.heap.size + 1, 0, none⟩ = some (rowV (w.heap.size, [h, l])) ∧ Blk W w.heap.size (ivs [h, l]) 3 ∧ Below w.heap.size w W := by
  subst hW
  refine ⟨by simp [go_sem, rowV], ?_, by go_grown⟩
  exact (Blk.new w #[.int .i64 h, .int .i64 l] 3).alloc _
theorem wpList_append_two (wr : World) {ops : Array Oper} {rest : List Oper} {o : Oper} {a : Act} {Q : Exit → Act → World → Prop} (h l : Int) (hgd : o.guard = none) (s x : Operand)
    (ho : o.op = .call { callee := .builtin .append, args := #[s, x], argTypes := #[25, 25] })
    (B : Nat) (xss : List (List Int)) (v : Value) (hs : a.eval s = v) (hown : Rws B xss v wr) (hx : a.eval x = .slice (some ⟨wr.heap.size + 1, 0, none⟩) 1 1) (hlen : xss.length ≤ 1000000) (hB : B ≤ wr.heap.size)
    (hk : ∀ v' w', Rws B (xss ++ [[h, l]]) v' w' → Below B wr w' → wpList Try.prog ops Q rest (a.put o.dst v') w') :
    wpList Try.prog ops Q (o :: rest) a ((wr.alloc (.cells #[.int .i64 h, .int .i64 l] 3)).alloc (.cells #[.slice (some ⟨wr.heap.size, 0, none⟩) 2 2] 42)) := by
  obtain ⟨h1, h2, h3⟩ := two_new wr h l _ rfl
  refine wpList_append_rw _ hgd s x ho B xss v hs wr hown h3 (wr.heap.size + 1) wr.heap.size [h, l] hx h1 h2 (Nat.le_refl _) hlen hB (fun v' w' k1 k2 => hk v' w' k1 ?_)
  exact Below.trans (h3.mono hB) k2
set_option maxRecDepth 1000000 in
set_option maxHeartbeats 4000000 in
theorem bfo_yes (m s : Int) (w : World) (hm : houB m = true) (hs : s = 1 ∨ s = 2) :
    Calls Try.prog 51 #[.int .i64 m, .int .i64 s] w fun e w' => (∃ (xs : List (Int × Int)) (v : Value), e = .returned (.tuple #[v, .bool true]) ∧ UpTo (SolS s) xs (m + 1) ∧ Rws w.heap.size (prR xs) v w') ∧ Below w.heap.size w w' := by
  obtain ⟨hm1, hm2⟩ := (houB_iff m).1 hm
  have hs1 : 1 ≤ s := by omega
  have hs2 : s ≤ 2 := by omega
  have HS := Lib.hid hs
  clear hs
  have H0 : Hid (BfSt s 1 1 0 0 []) := BfSt.start s HS.out
  have R0 : Hid (Rws w.heap.size (prR []) (.slice none 0 0) w) := Rws.nil _ _
  go_enter Try.func51, Try.ntmps51
  go_wp2
  refine wp_scope_jumps 0 (fun a' w' => ∃ (h l L R : Int) (xs : List (Int × Int)) (v : Value) (u11 u12 u13 u14 u15 u16 u17 u18 u19 u20 u21 u22 u23 u24 u25 u26 u27 u28 u29 u30 u31 u32 u33 u34 u35 u36 u37 u38 u39 u40 u41 u42 u43 u44 : Value), a' = { tmps := #[.int .i64 m, .int .i64 s, undef, undef, .slice none 0 0, .bool false, v, .int .i64 h, .int .i64 l, .int .i64 L, .int .i64 R, u11, u12, u13, u14, u15, u16, u17, u18, u19, u20, u21, u22, u23, u24, u25, u26, u27, u28, u29, u30, u31, u32, u33, u34, u35, u36, u37, u38, u39, u40, u41, u42, u43, u44], defers := [] } ∧ Hid (BfSt s h l L R xs) ∧ Hid (Rws w.heap.size (prR xs) v w') ∧ Below w.heap.size w w' ∧ l ≤ m) (fun a' _ => (2 * m - intOf (a'.tmps.getD 7 undef) - intOf (a'.tmps.getD 8 undef)).toNat) rfl ?_ ?_
  · go_wp2_with (first | (go_at_call 68; refine (isHouse_any _ _).mono ?_; rintro e w' ⟨rfl, rfl⟩))
    go_step3
    have ha0 : (prR []).length ≤ 1000000 := by simp [prR]
    by_cases hle : 1 + s ≤ m
    · go_wp2_with (at_builtin; refine wpList_append_two w 1 1 rfl _ _ rfl w.heap.size (prR []) _ rfl R0.out rfl ha0 (by omega) ?_; intro v1 w6 hr6 hb6)
      go_step3
      have HU := Lib.hid (H0.out.found rfl)
      have HM := Lib.hid (H0.out.more HU.out)
      refine ⟨rfl, 1, 1 + s, 0, 1 + s, [(1, 1)], v1, _, _, _, _, _, _, _, _, _, _, _, _, _, _, _, _, _, _, _, _, _, _, _, _, _, _, _, _, _, _, _, _, _, _, rfl, ?_, hr6, hb6, hle⟩
      show BfSt _ _ _ _ _ _
      have := HM.out
      rwa [Int.zero_add] at this
    · have HU := Lib.hid (H0.out.found rfl)
      have HL := Lib.hid (H0.out.found_le)
      go_wp2_with (at_builtin; refine wpList_append_two w 1 1 rfl _ _ rfl w.heap.size (prR []) _ rfl R0.out rfl ha0 (by omega) ?_; intro v1 w6 hr6 hb6)
      simp only [Exit.jump]
      go_ret2
      exact ⟨⟨[(1, 1)], v1, rfl, upTo_end HU.out hm1 (by omega) HL.out, hr6⟩, hb6⟩
  · rintro a' w' ⟨h, l, L, R, xs, v, u11, u12, u13, u14, u15, u16, u17, u18, u19, u20, u21, u22, u23, u24, u25, u26, u27, u28, u29, u30, u31, u32, u33, u34, u35, u36, u37, u38, u39, u40, u41, u42, u43, u44, rfl, HB, HR, hb, hlm⟩
    obtain ⟨k1, k2, k3, k4⟩ := HB.out.bds (by omega)
    have hh1 := HB.out.h1
    have hhl := HB.out.hl
    have hbs := hb.size
    rcases Int.lt_trichotomy L R with hlt | heq | hgt
    · have HN := Lib.hid (HB.out.next hlt)
      have hnl := HN.out.hl
      go_wp2
      go_step3
      refine ⟨rfl, ⟨h + s, l, L + h, R - (h + s), xs, v, _, _, _, _, _, _, _, _, _, _, _, _, _, _, _, _, _, _, _, _, _, _, _, _, _, _, _, _, _, _, _, _, _, _, rfl, HN.out, HR.out, hb, hlm⟩, ?_⟩
      simp [intOf]; omega
    · subst heq
      have HU := Lib.hid (HB.out.found rfl)
      have HL := Lib.hid (HB.out.found_le)
      have ha0 : (prR xs).length ≤ 1000000 := by
        rw [prR_len]
        have := upTo_len HB.out.up (by omega)
        omega
      have hB : w.heap.size ≤ w'.heap.size := hbs
      by_cases hle : l + s ≤ m
      · have HM := Lib.hid (HB.out.more HU.out)
        go_wp2_with (at_builtin; refine wpList_append_two w' h l rfl _ _ rfl w.heap.size (prR xs) _ rfl HR.out rfl ha0 (by omega) ?_; intro v1 w6 hr6 hb6)
        go_step3
        refine ⟨rfl, ⟨h, l + s, L, L + (l + s), xs ++ [(h, l)], v1, _, _, _, _, _, _, _, _, _, _, _, _, _, _, _, _, _, _, _, _, _, _, _, _, _, _, _, _, _, _, _, _, _, _, rfl, HM.out, ?_, hb.trans hb6, hle⟩, ?_⟩
        · show Rws _ _ _ _
          rw [prR_snoc]; exact hr6
        · simp [intOf]; omega
      · go_wp2_with (at_builtin; refine wpList_append_two w' h l rfl _ _ rfl w.heap.size (prR xs) _ rfl HR.out rfl ha0 (by omega) ?_; intro v1 w6 hr6 hb6)
        simp only [Exit.jump]
        go_ret2
        exact ⟨⟨xs ++ [(h, l)], v1, rfl, upTo_end HU.out hlm (by omega) HL.out, by rw [prR_snoc]; exact hr6⟩, hb.trans hb6⟩
    · have HU := Lib.hid (HB.out.none hgt)
      have HL := Lib.hid (HB.out.none_le)
      have hne : (L == R) = false := by simp; omega
      have hnl : ¬ L < R := by omega
      by_cases hle : l + s ≤ m
      · have HM := Lib.hid (HB.out.more HU.out)
        go_wp2
        go_step3
        refine ⟨rfl, ⟨h, l + s, L, R + (l + s), xs, v, _, _, _, _, _, _, _, _, _, _, _, _, _, _, _, _, _, _, _, _, _, _, _, _, _, _, _, _, _, _, _, _, _, _, rfl, HM.out, HR.out, hb, hle⟩, ?_⟩
        simp [intOf]; omega
      · go_wp2
        simp only [Exit.jump]
        go_ret2
        exact ⟨⟨xs, v, rfl, upTo_end HU.out hlm (by omega) HL.out, HR.out⟩, hb⟩
theorem bfo_no (m s : Int) (w : World) (hm : houB m = false) :
    Calls Try.prog 51 #[.int .i64 m, .int .i64 s] w fun e w' => e = .returned (.tuple #[.slice none 0 0, .bool false]) ∧ Below w.heap.size w w' := by
  go_enter Try.func51, Try.ntmps51
  go_wp2
  refine wp_scope_jumps 0 (fun _ _ => False) (fun _ _ => 0) rfl ?_ ?_
  · go_wp2_with (first | (go_at_call 68; refine (isHouse_any _ _).mono ?_; rintro e w' ⟨rfl, rfl⟩))
    simp only [Exit.jump]
    go_ret2
    exact ⟨rfl, Below.refl _ _⟩
  · rintro a' w' h
    exact h.elim
end Go.Proofs.Ytjjegpoimnkknaa
