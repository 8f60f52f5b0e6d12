/-
  The laws of CountOfSum, NumberOfSum and NextOfSum.
-/
import Derived.Test.YtdgdjgefjhkpbabDoorDiNs
import Derived.Test.YtdgdjgefjhkpbabDoorDiOs
namespace Go.Proofs.YtdgdjgefjhkpbabDoor
open Go.RowKit

/-- What CountOfSum answers. -/
def cosB (n u : Int) : Bool := nuB n && decide (0 ≤ u)
def cosA (n u : Int) : Int := if cosB n u = true then uc u n else 0
theorem iCos_any (n u : Int) (w : World) (hu1 : u ≤ 9223372036854775807) (htab : Tab w) :
    Calls Tryd.prog 10 #[.int .i64 n, .int .i64 u] w fun e w' => e = .returned (.tuple #[.int .i64 (cosA n u), .bool (cosB n u)]) ∧ Below w.heap.size w w' := by
  cases hn : nuB n with
  | true =>
    obtain ⟨h0, h1⟩ := (nuB_iff n).1 hn
    by_cases hu : u < 0
    · have hb : cosB n u = false := by unfold cosB; rw [hn, decide_eq_false (by omega)]; rfl
      have HZ : Hid (0 = cosA n u) := by show _ = _; unfold cosA; rw [if_neg (by simp [hb])]
      rw [hb]
      clear hb htab
      go_enter Tryd.func10, Tryd.ntmps10
      go_wp2_with (first | (go_at_call 23; refine (isWritable_any _ _).mono ?_; rintro e w' ⟨rfl, rfl⟩))
      go_ret2
      exact ⟨ret_ib HZ.out rfl, Below.refl _ _⟩
    · have hb : cosB n u = true := by unfold cosB; rw [hn, decide_eq_true (by omega)]; rfl
      have HZ : Hid (uc u n = cosA n u) := by show _ = _; unfold cosA; rw [if_pos hb]
      have HS := Lib.hid (newSums_any w htab)
      have HN := Lib.hid (fun v B W hW hC => numbersOfSum_any n u v B W h0 h1 (by omega) hu1 hC (htab.keep hW))
      rw [hb]
      clear hb htab
      go_enter Tryd.func10, Tryd.ntmps10
      go_wp2_with (first | (go_at_call 23; refine (isWritable_any _ _).mono ?_; rintro e w' ⟨rfl, rfl⟩) | (go_at_call 24; refine HS.out.mono ?_; rintro e w1 ⟨v, rfl, hc, b1⟩; have HC := Lib.hid hc; clear hc) | (go_at_call 25; refine (HN.out _ _ _ b1 HC.out).mono ?_; rintro e w2 ⟨rfl, b2⟩))
      go_ret2
      exact ⟨ret_ib HZ.out rfl, chain b1 b2⟩
  | false =>
    have hb : cosB n u = false := by unfold cosB; rw [hn]; rfl
    have HZ : Hid (0 = cosA n u) := by show _ = _; unfold cosA; rw [if_neg (by simp [hb])]
    rw [hb]
    clear hb htab
    go_enter Tryd.func10, Tryd.ntmps10
    go_wp2_with (first | (go_at_call 23; refine (isWritable_any _ _).mono ?_; rintro e w' ⟨rfl, rfl⟩))
    go_ret2
    exact ⟨ret_ib HZ.out rfl, Below.refl _ _⟩
theorem sCos_any (n u : Int) (w : World) (hu1 : u ≤ 9223372036854775807) :
    Calls Tryd.prog 9 #[.int .i64 n, .int .i64 u] w fun e w' => e = .returned (.tuple #[.int .i64 (cosA n u), .bool (cosB n u)]) ∧ Below w.heap.size w w' := by
  cases hn : nuB n with
  | true =>
    obtain ⟨h0, h1⟩ := (nuB_iff n).1 hn
    by_cases hu : u < 0
    · have hb : cosB n u = false := by unfold cosB; rw [hn, decide_eq_false (by omega)]; rfl
      have HZ : Hid (0 = cosA n u) := by show _ = _; unfold cosA; rw [if_neg (by simp [hb])]
      rw [hb]
      clear hb
      go_enter Tryd.func9, Tryd.ntmps9
      go_wp2_with (first | (go_at_call 21; refine (diGood_any _ _).mono ?_; rintro e w' ⟨rfl, rfl⟩))
      go_ret2
      exact ⟨ret_ib HZ.out rfl, Below.refl _ _⟩
    · have hb : cosB n u = true := by unfold cosB; rw [hn, decide_eq_true (by omega)]; rfl
      have HZ : Hid (uc u n = cosA n u) := by show _ = _; unfold cosA; rw [if_pos hb]
      have HN := Lib.hid (fun W => diOfSum_any n u W h0 h1 (by omega) hu1)
      rw [hb]
      clear hb
      go_enter Tryd.func9, Tryd.ntmps9
      go_wp2_with (first | (go_at_call 21; refine (diGood_any _ _).mono ?_; rintro e w' ⟨rfl, rfl⟩) | (go_at_call 22; refine (HN.out _).mono ?_; rintro e w1 ⟨rfl, b1⟩))
      go_ret2
      exact ⟨ret_ib HZ.out rfl, b1⟩
  | false =>
    have hb : cosB n u = false := by unfold cosB; rw [hn]; rfl
    have HZ : Hid (0 = cosA n u) := by show _ = _; unfold cosA; rw [if_neg (by simp [hb])]
    rw [hb]
    clear hb
    go_enter Tryd.func9, Tryd.ntmps9
    go_wp2_with (first | (go_at_call 21; refine (diGood_any _ _).mono ?_; rintro e w' ⟨rfl, rfl⟩))
    go_ret2
    exact ⟨ret_ib HZ.out rfl, Below.refl _ _⟩
theorem wf_le {n : Int} (h : (Lit.int .i64 n).wf = true) : n ≤ 9223372036854775807 := by simp [Lit.wf] at h; exact h.2
theorem FnExactCountOfSum_law (n u : Int) (_h0 : (Lit.int .i64 n).wf = true) (h1 : (Lit.int .i64 u).wf = true) (w : World) (htab : Tab w) :
    Calls Tryd.prog 3 #[.int .i64 n, .int .i64 u] w fun e w' => e = .returned (.bool true) ∧ Below w.heap.size w w' := by
  have hu := wf_le h1
  have HT := Lib.hid (fun W hW => iCos_any n u W hu (htab.keep hW))
  clear htab h1
  go_enter Tryd.func3, Tryd.ntmps3
  go_wp2_with (first | (go_at_call 9; go_must ((with_reducible refine (sCos_any _ _ _ hu).mono ?_); rintro e w1 ⟨rfl, b1⟩)) | (go_at_call 10; go_must ((refine (HT.out _ b1).mono ?_); rintro e w2 ⟨rfl, b2⟩)))
  go_ret
  exact ⟨rfl, chain b1 b2⟩

/-- Are more counted? -/
def moB (u r n : Int) : Bool := decide (r < uc u n)
set_option maxHeartbeats 1000000 in
theorem nosC_any (n u r : Int) (v : Value) (B b3 b4 b5 : Nat) (w : World) (h0 : 0 ≤ n) (h1 : n ≤ 1000000000000) (hu0 : 0 ≤ u) (hu1 : u ≤ 9223372036854775807) (hC : Cnts w v 12 B) (htab : Tab w)
    (F3 : Blk w b3 #[v] 29) (F4 : Blk w b4 #[.int .i64 u] 3) (F5 : Blk w b5 #[.int .i64 r] 3) :
    Calls Tryd.prog 47 #[.int .i64 n, .pointer (some ⟨b3, 0, none⟩), .pointer (some ⟨b4, 0, none⟩), .pointer (some ⟨b5, 0, none⟩)] w fun e w' => e = .returned (.bool (moB u r n)) ∧ Below w.heap.size w w' := by
  have HN := Lib.hid (fun W (hW : Below w.heap.size w W) => numbersOfSum_any n u v B W h0 h1 hu0 hu1 (hC.below hW) (htab.keep hW))
  have HZ : Hid (moB u r n = decide (uc u n > r)) := rfl
  obtain ⟨g, cap, hv, _⟩ := hC
  have HF3 := Lib.hid F3
  have HF4 := Lib.hid F4
  have HF5 := Lib.hid F5
  have c3 := F3.cell 0
  have c4 := F4.cell 0
  have c5 := F5.cell 0
  simp at c3 c4 c5
  subst hv
  have c3' : w.cell? ⟨b3, 0, none⟩ = some (.slice (some ⟨g, 0, none⟩) 13 cap) := c3
  have mixed : Tryd.prog.follows .mixedOrders = true := by kernel_rfl
  clear F3 F4 F5 htab c3
  go_enter Tryd.func47, Tryd.ntmps47
  go_wp2
  go_region_held3 (fun w' => w'.cell? ⟨b3, 0, none⟩ = some (.slice (some ⟨g, 0, none⟩) 13 cap) ∧ w'.cell? ⟨b4, 0, none⟩ = some (.int .i64 u) ∧ w'.cell? ⟨b5, 0, none⟩ = some (.int .i64 r))
    (first | go_keep | exact ⟨e3, e4, e5⟩)
    (first | (go_at_call 25; (refine (HN.out _ (by go_grown)).mono ?_); rintro e w1 ⟨rfl, b1⟩; have B1 : Below w.heap.size w w1 := chain (w := w) (by go_grown) b1; have e3 : w1.cell? ⟨b3, 0, none⟩ = some (.slice (some ⟨g, 0, none⟩) 13 cap) := (HF3.out.keep B1).cell 0; have e4 : w1.cell? ⟨b4, 0, none⟩ = some (.int .i64 u) := (HF4.out.keep B1).cell 0; have e5 : w1.cell? ⟨b5, 0, none⟩ = some (.int .i64 r) := (HF5.out.keep B1).cell 0) | fail)
  all_goals go_wp2
  all_goals go_ret
  all_goals exact ⟨ret_bool (by rw [HZ.out]), by go_grown⟩
set_option maxHeartbeats 1000000 in
theorem nos_any (u r : Int) (v : Value) (B : Nat) (w : World) (hu0 : 0 ≤ u) (hu1 : u ≤ 9223372036854775807) (hC : Cnts w v 12 B) (htab : Tab w) :
    Calls Tryd.prog 28 #[v, .int .i64 u, .int .i64 r] w fun e w' => (∃ (h : Int) (ok : Bool), e = .returned (.tuple #[.int .i64 h, .bool ok]) ∧ LeastIs (moB u r) 1 1000000000000 h ok) ∧ Below w.heap.size w w' := by
  obtain ⟨g, cap, hv, _⟩ := hC
  have hX : Below w.heap.size w (((w.alloc (.cells #[v] 29)).alloc (.cells #[.int .i64 u] 3)).alloc (.cells #[.int .i64 r] 3)) := by go_grown
  have F3 := ((Blk.new w #[v] 29).alloc (.cells #[.int .i64 u] 3)).alloc (.cells #[.int .i64 r] 3)
  have F4 := (Blk.new (w.alloc (.cells #[v] 29)) #[.int .i64 u] 3).alloc (.cells #[.int .i64 r] 3)
  have F5 := Blk.new ((w.alloc (.cells #[v] 29)).alloc (.cells #[.int .i64 u] 3)) #[.int .i64 r] 3
  have HL : Hid (Calls Tryd.prog 35 #[.int .i64 1, .int .i64 1000000000000, .func (.func 47) #[] #[.pointer (some ⟨w.heap.size, 0, none⟩), .pointer (some ⟨w.heap.size + 1, 0, none⟩), .pointer (some ⟨w.heap.size + 1 + 1, 0, none⟩)]] (((w.alloc (.cells #[v] 29)).alloc (.cells #[.int .i64 u] 3)).alloc (.cells #[.int .i64 r] 3)) fun e w' => (∃ (h : Int) (ok : Bool), e = .returned (.tuple #[.int .i64 h, .bool ok]) ∧ LeastIs (moB u r) 1 1000000000000 h ok) ∧ Below w.heap.size w w') := by
    simp only [World.size_alloc] at F4 F5
    refine (leastIn_any 1 1000000000000 47 _ (moB u r) _ (by omega) (by omega) (by omega) (enters_of Tryd.func47 (by kernel_rfl) rfl) ?_ ?_).mono ?_
    · intro h W hx hy hW
      have hWw := hX.trans (hW.mono hX.size)
      exact nosC_any h u r v B _ _ _ W (by omega) hy hu0 hu1 (Cnts.below ⟨g, cap, hv, by assumption⟩ hWw) (htab.keep hWw) (F3.keep hW) (F4.keep hW) (F5.keep hW)
    · intro x y hx hxy hy h
      unfold moB at *
      simp only [decide_eq_true_eq] at *
      have := uc_mono (s := u) hxy hy
      omega
    rintro e w1 ⟨h, b1⟩
    exact ⟨h, hX.trans (b1.mono hX.size)⟩
  subst hv
  clear hX F3 F4 F5 htab
  go_enter Tryd.func28, Tryd.ntmps28
  go_wp2_with (go_at_call 35; go_must (refine HL.out.mono ?_; rintro e w1 ⟨⟨h, ok, rfl, hl⟩, b1⟩; have HL2 := Lib.hid hl; clear hl))
  go_ret2
  exact ⟨⟨h, ok, rfl, HL2.out⟩, b1⟩
set_option maxHeartbeats 1000000 in
theorem diOfRank_any (u r : Int) (w : World) (hu0 : 0 ≤ u) (hu1 : u ≤ 9223372036854775807) :
    Calls Tryd.prog 27 #[.int .i64 u, .int .i64 r] w fun e w' => (∃ (h : Int) (ok : Bool), e = .returned (.tuple #[.int .i64 h, .bool ok]) ∧ LeastIs (moB u r) 1 1000000000000 h ok) ∧ Below w.heap.size w w' := by
  by_cases hc : uc u 1000000000000 ≤ r
  · have HR : Hid (LeastIs (moB u r) 1 1000000000000 0 false) := .inr ⟨rfl, rfl, fun x hx1 hx2 => by
      have := uc_mono (s := u) (a := x) (b := 1000000000000) hx2 (by omega)
      unfold moB
      rw [decide_eq_false_iff_not]; omega⟩
    go_enter Tryd.func27, Tryd.ntmps27
    go_wp2_with (go_at_call 22; refine (diOfSum_any 1000000000000 u _ (by omega) (by omega) hu0 hu1).mono ?_; rintro e w1 ⟨rfl, b1⟩)
    go_ret2
    exact ⟨⟨0, false, rfl, HR.out⟩, b1⟩
  · go_enter Tryd.func27, Tryd.ntmps27
    go_wp2_with (go_at_call 22; refine (diOfSum_any 1000000000000 u _ (by omega) (by omega) hu0 hu1).mono ?_; rintro e w1 ⟨rfl, b1⟩)
    have HCC := Lib.hid hc
    clear hc
    go_loopw [6, 7] (fun l h wr => ∃ lo hi : Int, l = .int .i64 lo ∧ h = .int .i64 hi ∧ 1 ≤ lo ∧ lo ≤ hi ∧ hi ≤ 1000000000000 ∧ Hid (r < uc u hi ∧ ∀ x, 1 ≤ x → x < lo → uc u x ≤ r) ∧ Below w.heap.size w wr) (fun l h _ => (intOf h - intOf l).toNat)
    case atStart => exact ⟨1, 1000000000000, rfl, rfl, by omega, by omega, by omega, ⟨by have := HCC.out; omega, fun x a b => by omega⟩, b1⟩
    case round =>
      obtain ⟨lo, hi, rfl, rfl, hlo, hlh, hhi, HK, hb⟩ := hrel
      by_cases hlt : lo < hi
      · obtain ⟨q, hq⟩ : ∃ q, q = (lo + hi) / 2 := ⟨_, rfl⟩
        have hm1 : lo ≤ q := by omega
        have hm2 : q < hi := by omega
        have hr : ((lo + hi) / 2 : Int) = q := hq.symm
        have hq0 : 0 ≤ q := by omega
        have hq9 : q ≤ 1000000000000 := by omega
        clear hq
        by_cases hc : r < uc u q
        · go_wp2_with (go_at_call 22; refine (diOfSum_any q u _ hq0 hq9 hu0 hu1).mono ?_; rintro e w2 ⟨rfl, b2⟩)
          go_roundw
          case rel => exact ⟨lo, q, rfl, rfl, by omega, by omega, by omega, ⟨hc, HK.out.2⟩, hb.trans (b2.mono hb.size)⟩
          case measure => simp [intOf]; omega
        · go_wp2_with (go_at_call 22; refine (diOfSum_any q u _ hq0 hq9 hu0 hu1).mono ?_; rintro e w2 ⟨rfl, b2⟩)
          go_roundw
          case rel => exact ⟨q + 1, hi, rfl, rfl, by omega, by omega, by omega, ⟨HK.out.1, fun x a b => by have := uc_mono (s := u) (a := x) (b := q) (by omega) (by omega); omega⟩, hb.trans (b2.mono hb.size)⟩
          case measure => simp [intOf]; omega
      · have HR : Hid (LeastIs (moB u r) 1 1000000000000 lo true) := .inl ⟨rfl, hlo, by omega, by unfold moB; rw [decide_eq_true_eq, show lo = hi by omega]; exact HK.out.1, fun x a b => by unfold moB; rw [decide_eq_false_iff_not]; have := HK.out.2 x a b; omega⟩
        go_wp2
        go_ret2
        first | exact ⟨⟨lo, true, rfl, HR.out⟩, hb⟩ | exact ⟨⟨lo, .inr ⟨rfl, HR.out⟩⟩, hb⟩
/-- What NumberOfSum asks. -/
def nsB (u r : Int) : Bool := decide (1 ≤ u ∧ u ≤ 108 ∧ 0 ≤ r)
theorem iNos_yes (u r : Int) (w : World) (htab : Tab w) (hb : nsB u r = true) :
    Calls Tryd.prog 12 #[.int .i64 u, .int .i64 r] w fun e w' => (∃ (h : Int) (ok : Bool), e = .returned (.tuple #[.int .i64 h, .bool ok]) ∧ LeastIs (moB u r) 1 1000000000000 h ok) ∧ Below w.heap.size w w' := by
  unfold nsB at hb
  obtain ⟨h1, h2, h3⟩ := of_decide_eq_true hb
  have HS := Lib.hid (newSums_any w htab)
  have HN := Lib.hid (fun v B W hW hC => nos_any u r v B W (by omega) (by omega) hC (htab.keep hW))
  clear hb htab
  go_enter Tryd.func12, Tryd.ntmps12
  go_wp2_with (first | (go_at_call 24; refine HS.out.mono ?_; rintro e w1 ⟨v, rfl, hc, b1⟩; have HC := Lib.hid hc; clear hc) | (go_at_call 28; refine (HN.out _ _ _ b1 HC.out).mono ?_; rintro e w2 ⟨⟨h, ok, rfl, hl⟩, b2⟩; have HL2 := Lib.hid hl; clear hl))
  go_ret2
  exact ⟨⟨h, ok, rfl, HL2.out⟩, chain b1 b2⟩
theorem iNos_no (u r : Int) (w : World) (hb : nsB u r = false) :
    Calls Tryd.prog 12 #[.int .i64 u, .int .i64 r] w fun e w' => e = .returned (.tuple #[.int .i64 0, .bool false]) ∧ Below w.heap.size w w' := by
  unfold nsB at hb
  rw [decide_eq_false_iff_not] at hb
  by_cases h1 : u < 1
  · clear hb
    go_enter Tryd.func12, Tryd.ntmps12
    go_wp2
    go_ret2
    exact ⟨rfl, Below.refl _ _⟩
  · by_cases h2 : 108 < u
    · clear hb
      go_enter Tryd.func12, Tryd.ntmps12
      go_wp2
      go_ret2
      exact ⟨rfl, Below.refl _ _⟩
    · have h3 : r < 0 := by omega
      clear hb
      go_enter Tryd.func12, Tryd.ntmps12
      go_wp2
      go_ret2
      exact ⟨rfl, Below.refl _ _⟩
theorem sNos_yes (u r : Int) (w : World) (hb : nsB u r = true) :
    Calls Tryd.prog 11 #[.int .i64 u, .int .i64 r] w fun e w' => (∃ (h : Int) (ok : Bool), e = .returned (.tuple #[.int .i64 h, .bool ok]) ∧ LeastIs (moB u r) 1 1000000000000 h ok) ∧ Below w.heap.size w w' := by
  unfold nsB at hb
  obtain ⟨h1, h2, h3⟩ := of_decide_eq_true hb
  have hd : decide (1 ≤ u ∧ u ≤ 108) = true := decide_eq_true ⟨h1, h2⟩
  have HN := Lib.hid (fun W => diOfRank_any u r W (by omega) (by omega))
  clear hb
  go_enter Tryd.func11, Tryd.ntmps11
  go_wp2_with (first | (go_at_call 26; refine (in_any _ _ _ _).mono ?_; rintro e w' ⟨rfl, rfl⟩) | (go_at_call 27; refine (HN.out _).mono ?_; rintro e w2 ⟨⟨h, ok, rfl, hl⟩, b2⟩; have HL2 := Lib.hid hl; clear hl))
  go_ret2
  exact ⟨⟨h, ok, rfl, HL2.out⟩, b2⟩
theorem sNos_no (u r : Int) (w : World) (hb : nsB u r = false) :
    Calls Tryd.prog 11 #[.int .i64 u, .int .i64 r] w fun e w' => e = .returned (.tuple #[.int .i64 0, .bool false]) ∧ Below w.heap.size w w' := by
  unfold nsB at hb
  rw [decide_eq_false_iff_not] at hb
  cases hd : decide (1 ≤ u ∧ u ≤ 108) with
  | true =>
    have h3 : r < 0 := by have := of_decide_eq_true hd; omega
    clear hb
    go_enter Tryd.func11, Tryd.ntmps11
    go_wp2_with (first | (go_at_call 26; refine (in_any _ _ _ _).mono ?_; rintro e w' ⟨rfl, rfl⟩))
    go_ret2
    exact ⟨rfl, Below.refl _ _⟩
  | false =>
    clear hb
    go_enter Tryd.func11, Tryd.ntmps11
    go_wp2_with (first | (go_at_call 26; refine (in_any _ _ _ _).mono ?_; rintro e w' ⟨rfl, rfl⟩))
    go_ret2
    exact ⟨rfl, Below.refl _ _⟩
theorem FnExactNumberOfSum_law (u r : Int) (_h0 : (Lit.int .i64 u).wf = true) (_h1 : (Lit.int .i64 r).wf = true) (w : World) (htab : Tab w) :
    Calls Tryd.prog 4 #[.int .i64 u, .int .i64 r] w fun e w' => e = .returned (.bool true) ∧ Below w.heap.size w w' := by
  cases hb : nsB u r with
  | true =>
    have HT := Lib.hid (fun W hW => iNos_yes u r W (htab.keep hW) hb)
    clear htab
    go_enter Tryd.func4, Tryd.ntmps4
    go_wp2_with (first | (go_at_call 11; go_must ((with_reducible refine (sNos_yes _ _ _ hb).mono ?_); rintro e w1 ⟨⟨l, a, rfl, hr⟩, b1⟩; have HR := Lib.hid hr; clear hr)) | (go_at_call 12; go_must ((refine (HT.out _ b1).mono ?_); rintro e w2 ⟨⟨q, o, rfl, hq⟩, b2⟩; have e0 := (HR.out.uniq hq).1; have e1 := (HR.out.uniq hq).2; subst e0; subst e1; clear hq)))
    go_ret
    exact ⟨rfl, chain b1 b2⟩
  | false =>
    clear htab
    go_enter Tryd.func4, Tryd.ntmps4
    go_wp2_with (first | (go_at_call 11; go_must ((with_reducible refine (sNos_no _ _ _ hb).mono ?_); rintro e w1 ⟨rfl, b1⟩)) | (go_at_call 12; go_must ((with_reducible refine (iNos_no _ _ _ hb).mono ?_); rintro e w2 ⟨rfl, b2⟩)))
    go_ret
    exact ⟨rfl, chain b1 b2⟩

/-- What NextOfSum asks. -/
def nxB (n : Int) : Bool := decide (1 ≤ n ∧ n ≤ 1000000000000)
theorem nsum_bd (n : Int) (h0 : 0 ≤ n) (h1 : n ≤ 1000000000000) : 0 ≤ nsum n ∧ nsum n ≤ 1000000000000 := by
  have := nsum_le n.toNat
  unfold nsum; omega
theorem iNx_yes (n : Int) (w : World) (htab : Tab w) (hb : nxB n = true) :
    Calls Tryd.prog 14 #[.int .i64 n] w fun e w' => (∃ (h : Int) (ok : Bool), e = .returned (.tuple #[.int .i64 h, .bool ok]) ∧ LeastIs (moB (nsum n) (uc (nsum n) n)) 1 1000000000000 h ok) ∧ Below w.heap.size w w' := by
  unfold nxB at hb
  obtain ⟨h1, h2⟩ := of_decide_eq_true hb
  have hn : nuB n = true := (nuB_iff n).2 ⟨by omega, h2⟩
  have hz : (n == 0) = false := by simp; omega
  have hs := nsum_bd n (by omega) h2
  have HS := Lib.hid (newSums_any w htab)
  have HG := Lib.hid (fun W hW => digitSum_any n W (by omega) h2 (htab.keep hW))
  have HM := Lib.hid (fun v B W hW hC => numbersOfSum_any n (nsum n) v B W (by omega) h2 hs.1 (by omega) hC (htab.keep hW))
  have HN := Lib.hid (fun v B W hW hC => nos_any (nsum n) (uc (nsum n) n) v B W hs.1 (by omega) hC (htab.keep hW))
  obtain ⟨u, hu⟩ : ∃ u, nsum n = u := ⟨_, rfl⟩
  obtain ⟨c, hc⟩ : ∃ c, uc u n = c := ⟨_, rfl⟩
  rw [hu] at HG HM HN
  rw [hc] at HM HN
  rw [hu, hc]
  clear hb htab hs hu hc
  go_enter Tryd.func14, Tryd.ntmps14
  go_wp2_with (first | (go_at_call 23; refine (isWritable_any _ _).mono ?_; rintro e w' ⟨rfl, rfl⟩) | (go_at_call 24; refine HS.out.mono ?_; rintro e w1 ⟨v, rfl, hc, b1⟩; have HC := Lib.hid hc; clear hc) | (go_at_call 30; refine (HG.out _ b1).mono ?_; rintro e w2 ⟨rfl, b2⟩; have HC2 := Lib.hid (HC.out.below b2); have B2 := chain (w := w) b1 b2) | (go_at_call 25; refine (HM.out _ _ _ B2 HC2.out).mono ?_; rintro e w3 ⟨rfl, b3⟩; have HC3 := Lib.hid (HC2.out.below b3); have B3 := chain (w := w) B2 b3) | (go_at_call 28; refine (HN.out _ _ _ B3 HC3.out).mono ?_; rintro e w4 ⟨⟨h, ok, rfl, hl⟩, b4⟩; have HL2 := Lib.hid hl; clear hl))
  go_ret2
  exact ⟨⟨h, ok, rfl, HL2.out⟩, chain B3 b4⟩
theorem iNx_no (n : Int) (w : World) (hb : nxB n = false) :
    Calls Tryd.prog 14 #[.int .i64 n] w fun e w' => e = .returned (.tuple #[.int .i64 0, .bool false]) ∧ Below w.heap.size w w' := by
  unfold nxB at hb
  rw [decide_eq_false_iff_not] at hb
  cases hn : nuB n with
  | true =>
    have hz : (n == 0) = true := by have := (nuB_iff n).1 hn; simp; omega
    clear hb
    go_enter Tryd.func14, Tryd.ntmps14
    go_wp2_with (first | (go_at_call 23; refine (isWritable_any _ _).mono ?_; rintro e w' ⟨rfl, rfl⟩))
    go_ret2
    exact ⟨rfl, Below.refl _ _⟩
  | false =>
    clear hb
    go_enter Tryd.func14, Tryd.ntmps14
    go_wp2_with (first | (go_at_call 23; refine (isWritable_any _ _).mono ?_; rintro e w' ⟨rfl, rfl⟩))
    go_ret2
    exact ⟨rfl, Below.refl _ _⟩
theorem sNx_yes (n : Int) (w : World) (hb : nxB n = true) :
    Calls Tryd.prog 13 #[.int .i64 n] w fun e w' => (∃ (h : Int) (ok : Bool), e = .returned (.tuple #[.int .i64 h, .bool ok]) ∧ LeastIs (moB (nsum n) (uc (nsum n) n)) 1 1000000000000 h ok) ∧ Below w.heap.size w w' := by
  have hd : decide (1 ≤ n ∧ n ≤ 1000000000000) = true := hb
  unfold nxB at hb
  obtain ⟨h1, h2⟩ := of_decide_eq_true hb
  have hs := nsum_bd n (by omega) h2
  have HG := Lib.hid (fun W => diSum_any n W (by omega) h2)
  have HM := Lib.hid (fun W => diOfSum_any n (nsum n) W (by omega) h2 hs.1 (by omega))
  have HN := Lib.hid (fun W => diOfRank_any (nsum n) (uc (nsum n) n) W hs.1 (by omega))
  obtain ⟨u, hu⟩ : ∃ u, nsum n = u := ⟨_, rfl⟩
  obtain ⟨c, hc⟩ : ∃ c, uc u n = c := ⟨_, rfl⟩
  rw [hu] at HG HM HN
  rw [hc] at HM HN
  rw [hu, hc]
  clear hb hs hu hc
  go_enter Tryd.func13, Tryd.ntmps13
  go_wp2_with (first | (go_at_call 26; refine (in_any _ _ _ _).mono ?_; rintro e w' ⟨rfl, rfl⟩) | (go_at_call 29; refine (HG.out _).mono ?_; rintro e w1 ⟨rfl, b1⟩; first | (have B2 := chain (w := w) B1 b1) | (have B1 := b1)) | (go_at_call 22; refine (HM.out _).mono ?_; rintro e w3 ⟨rfl, b3⟩; have B3 := chain (w := w) B2 b3) | (go_at_call 27; refine (HN.out _).mono ?_; rintro e w4 ⟨⟨h, ok, rfl, hl⟩, b4⟩; have HL2 := Lib.hid hl; clear hl))
  go_ret2
  exact ⟨⟨h, ok, rfl, HL2.out⟩, chain B3 b4⟩
theorem sNx_no (n : Int) (w : World) (hb : nxB n = false) :
    Calls Tryd.prog 13 #[.int .i64 n] w fun e w' => e = .returned (.tuple #[.int .i64 0, .bool false]) ∧ Below w.heap.size w w' := by
  have hd : decide (1 ≤ n ∧ n ≤ 1000000000000) = false := hb
  clear hb
  go_enter Tryd.func13, Tryd.ntmps13
  go_wp2_with (first | (go_at_call 26; refine (in_any _ _ _ _).mono ?_; rintro e w' ⟨rfl, rfl⟩))
  go_ret2
  exact ⟨rfl, Below.refl _ _⟩
theorem FnExactNextOfSum_law (n : Int) (_h0 : (Lit.int .i64 n).wf = true) (w : World) (htab : Tab w) :
    Calls Tryd.prog 5 #[.int .i64 n] w fun e w' => e = .returned (.bool true) ∧ Below w.heap.size w w' := by
  cases hb : nxB n with
  | true =>
    have HT := Lib.hid (fun W hW => iNx_yes n W (htab.keep hW) hb)
    clear htab
    go_enter Tryd.func5, Tryd.ntmps5
    go_wp2_with (first | (go_at_call 13; go_must ((with_reducible refine (sNx_yes _ _ hb).mono ?_); rintro e w1 ⟨⟨l, a, rfl, hr⟩, b1⟩; have HR := Lib.hid hr; clear hr)) | (go_at_call 14; go_must ((refine (HT.out _ b1).mono ?_); rintro e w2 ⟨⟨q, o, rfl, hq⟩, b2⟩; have e0 := (HR.out.uniq hq).1; have e1 := (HR.out.uniq hq).2; subst e0; subst e1; clear hq)))
    go_ret
    exact ⟨rfl, chain b1 b2⟩
  | false =>
    clear htab
    go_enter Tryd.func5, Tryd.ntmps5
    go_wp2_with (first | (go_at_call 13; go_must ((with_reducible refine (sNx_no _ _ hb).mono ?_); rintro e w1 ⟨rfl, b1⟩)) | (go_at_call 14; go_must ((with_reducible refine (iNx_no _ _ hb).mono ?_); rintro e w2 ⟨rfl, b2⟩)))
    go_ret
    exact ⟨rfl, chain b1 b2⟩
end Go.Proofs.YtdgdjgefjhkpbabDoor
