/-
  The laws of CountMade and CountPlain.
-/
import Derived.Test.YtlgleghofiflaaaSgTly
import Derived.Test.YtlgleghofiflaaaSgCl
namespace Go.Proofs.Ytlgleghofiflaaa
open Go.RowKit

/-- The first with the fewest signs. -/
def few : List (List UInt8) → Option (List UInt8)
  | [] => none
  | t :: l => some (l.foldl (fun b u => if nSg u < nSg b then u else b) t)
theorem few_snoc (l : List (List UInt8)) (u : List UInt8) : few (l ++ [u]) = some (match few l with | none => u | some b => if nSg u < nSg b then u else b) := by
  cases l with
  | nil => rfl
  | cons t l => simp [few, List.foldl_append]
theorem ts_ind {P : List (List UInt8) → Prop} (h0 : P []) (h1 : ∀ l c, P l → P (l ++ [c])) (l : List (List UInt8)) : P l := by
  have : ∀ r : List (List UInt8), P r.reverse := by
    intro r
    induction r with
    | nil => exact h0
    | cons c r ih => rw [List.reverse_cons]; exact h1 _ _ ih
  have := this l.reverse
  rwa [List.reverse_reverse] at this
theorem few_min (l : List (List UInt8)) : ∀ b, few l = some b → l.find? (fun t => nSg t == nSg b) = some b ∧ ∀ u ∈ l, nSg b ≤ nSg u := by
  induction l using ts_ind with
  | h0 => intro b h; cases h
  | h1 l u ih =>
    intro b h
    rw [few_snoc] at h
    cases e : few l with
    | none =>
      have hl : l = [] := by cases l with
        | nil => rfl
        | cons t l => cases e
      subst hl
      rw [e] at h
      simp only [Option.some.injEq] at h
      subst h
      simp
    | some b' =>
      obtain ⟨i1, i2⟩ := ih b' e
      rw [e] at h
      simp only [Option.some.injEq] at h
      by_cases hlt : nSg u < nSg b'
      · rw [if_pos hlt] at h
        subst h
        refine ⟨?_, ?_⟩
        · rw [List.find?_append, List.find?_eq_none.2 (fun v hv => by have := i2 v hv; simp; omega)]
          simp
        · intro v hv
          rcases List.mem_append.1 hv with hv | hv
          · have := i2 v hv; omega
          · simp at hv; subst hv; exact Nat.le_refl _
      · rw [if_neg hlt] at h
        subst h
        refine ⟨?_, ?_⟩
        · rw [List.find?_append, i1]; rfl
        · intro v hv
          rcases List.mem_append.1 hv with hv | hv
          · exact i2 v hv
          · simp at hv; subst hv; omega
theorem tly_few (x : Int) (ts : List (List UInt8)) : tly x (ts.map sr) = (few (ts.filter (fun t => sval t == x))).map (fun b => (((ts.filter (fun t => sval t == x)).length : Int), (nSg b : Int))) := by
  induction ts using ts_ind with
  | h0 => rfl
  | h1 l u ih =>
    rw [List.map_append, List.map_cons, List.map_nil, tly_snoc, ih, List.filter_append]
    unfold tlyS
    have hv : (sr u).1.val = sval u := rfl
    rw [hv]
    by_cases h : sval u = x
    · have e : [u].filter (fun t => sval t == x) = [u] := by simp [h]
      rw [if_pos h, e, few_snoc]
      cases hf : few (l.filter (fun t => sval t == x)) with
      | none =>
        have hl : l.filter (fun t => sval t == x) = [] := by
          cases e2 : l.filter (fun t => sval t == x) with
          | nil => rfl
          | cons t l' => rw [e2] at hf; cases hf
        rw [hl]; rfl
      | some b =>
        by_cases h2 : nSg u < nSg b
        · have h3 : (sr u).2 < (nSg b : Int) := by show (nSg u : Int) < _; omega
          simp [h2, h3]; rfl
        · have h3 : ¬ (sr u).2 < (nSg b : Int) := by show ¬ (nSg u : Int) < _; omega
          simp [h2, h3]
    · have e : [u].filter (fun t => sval t == x) = [] := by simp [h]
      rw [if_neg h, e, List.append_nil]
theorem tidx0 (a b : Int) (w : World) : (Instr.index 52 (.agg #[.int .i64 a, .int .i64 b]) (.int .i64 0)).run Try.prog w = .ok (.int .i64 a) w := by kernel_rfl
attribute [local go_sem] tidx0
/-- What both answer. -/
def cwN (plain : Bool) (s : ByteArray) (x : Int) : Int := if dgsB s.data.toList && numB x then ((madeL plain s.data.toList x).length : Int) else 0
theorem num_wf {x : Int} (h : numB x = true) : (Lit.int .i64 x).wf = true := by
  unfold numB at h
  simp only [decide_eq_true_eq] at h
  exact WalkArith.wf_i64 (by omega)
theorem tly_all (plain : Bool) (s : ByteArray) (x : Int) : tly x (rsAll plain s) = (few (madeL plain s.data.toList x)).map (fun b => (((madeL plain s.data.toList x).length : Int), (nSg b : Int))) := by
  have hsl : s.data.toList.length = s.size := by simp
  unfold rsAll madeL
  rw [tly_few, hsl]
theorem tly_len (plain : Bool) (s : ByteArray) (x : Int) : ((tly x (rsAll plain s)).getD (0, 0)).1 = ((madeL plain s.data.toList x).length : Int) := by
  rw [tly_all]
  cases h : madeL plain s.data.toList x with
  | nil => rfl
  | cons t l => rfl
set_option maxHeartbeats 1000000 in
theorem cw_any (s g : ByteArray) (plain : Bool) (x : Int) (w : World) (hs : s.size ≤ maxLen) (hgs : g = sbs plain) :
    Calls Try.prog 52 #[.string s, .string g, .int .i64 x] w fun e w' => e = .returned (.tuple #[.int .i64 (cwN plain s x), .bool (dgsB s.data.toList && numB x)]) ∧ Below w.heap.size w w' := by
  have HGS := Lib.hid hgs
  clear hgs
  cases hd : dgsB s.data.toList with
  | false =>
    have HF : Hid (cwN plain s x = 0) := by show _ = _; unfold cwN; rw [hd]; rfl
    have HD := Lib.hid hd
    clear hd
    go_enter Try.func52, Try.ntmps52
    go_wp2_with (first | (go_at_call 59; go_must ((with_reducible refine (digs_b _ false _ hs HD.out).mono ?_); rintro e w' ⟨rfl, rfl⟩)))
    go_ret2
    exact ⟨ret_ib HF.out.symm rfl, Below.refl _ _⟩
  | true =>
    cases hn : numB x with
    | false =>
      have HF : Hid (cwN plain s x = 0) := by show _ = _; unfold cwN; rw [hn, Bool.and_false]; rfl
      have HD := Lib.hid hd
      have HN := Lib.hid hn
      clear hd hn
      go_enter Try.func52, Try.ntmps52
      go_wp2_with (first | (go_at_call 59; go_must ((with_reducible refine (digs_b _ true _ hs HD.out).mono ?_); rintro e w' ⟨rfl, rfl⟩)) | (go_at_call 60; go_must ((with_reducible refine (num_b _ false _ HN.out).mono ?_); rintro e w' ⟨rfl, rfl⟩)))
      go_ret2
      exact ⟨ret_ib HF.out.symm rfl, Below.refl _ _⟩
    | true =>
      have HF : Hid (cwN plain s x = ((tly x (rsAll plain s)).getD (0, 0)).1) := by show _ = _; unfold cwN; rw [hd, hn, tly_len]; rfl
      have HW := Lib.hid (num_wf hn)
      have HD := Lib.hid hd
      have HN := Lib.hid hn
      clear hd hn
      go_enter Try.func52, Try.ntmps52
      go_wp2_with (first | (go_at_call 59; go_must ((with_reducible refine (digs_b _ true _ hs HD.out).mono ?_); rintro e w' ⟨rfl, rfl⟩)) | (go_at_call 60; go_must ((with_reducible refine (num_b _ true _ HN.out).mono ?_); rintro e w' ⟨rfl, rfl⟩)) | (go_at_call 61; go_must ((with_reducible refine (tal_any s g plain _ HD.out HGS.out).mono ?_); rintro e w1 ⟨b, n, rfl, htal, hn5, hbw, b1⟩; have HTL := Lib.hid htal; clear htal)) | (at_lookup; refine look_no _ rfl _ _ rfl b n (rsAll plain s) rfl HTL.out x rfl HW.out ?_))
      go_ret2
      exact ⟨ret_ib HF.out.symm rfl, b1⟩
theorem iCountMade_any (s : ByteArray) (x : Int) (w : World) (hs : s.size ≤ maxLen) :
    Calls Try.prog 24 #[.string s, .int .i64 x] w fun e w' => e = .returned (.tuple #[.int .i64 (cwN false s x), .bool (dgsB s.data.toList && numB x)]) ∧ Below w.heap.size w w' := by
  go_enter Try.func24, Try.ntmps24
  go_wp2_with (first | (go_at_call 52; go_must ((with_reducible refine (cw_any s ⟨#[42, 43, 45, 32]⟩ false x _ hs (by decide)).mono ?_); rintro e w1 ⟨rfl, b1⟩)))
  go_ret2
  exact ⟨rfl, b1⟩
set_option maxHeartbeats 400000 in
theorem sCountMade_any (s : ByteArray) (x : Int) (w : World) (hs : s.size ≤ maxLen) :
    Calls Try.prog 23 #[.string s, .int .i64 x] w fun e w' => e = .returned (.tuple #[.int .i64 (cwN false s x), .bool (dgsB s.data.toList && numB x)]) ∧ Below w.heap.size w w' := by
  cases hd : (dgsB s.data.toList && numB x) with
  | false =>
    have HF : Hid (cwN false s x = 0) := by show _ = _; unfold cwN; rw [hd]; rfl
    have HD := Lib.hid hd
    clear hd
    go_enter Try.func23, Try.ntmps23
    go_wp2_with (first | (go_at_call 50; go_must ((with_reducible refine (asked_b _ _ false _ hs HD.out).mono ?_); rintro e w' ⟨rfl, rfl⟩)))
    go_ret2
    exact ⟨ret_ib HF.out.symm rfl, Below.refl _ _⟩
  | true =>
    have HF : Hid (cwN false s x = ((madeL false s.data.toList x).length : Int)) := by show _ = _; unfold cwN; rw [hd]; rfl
    have HD := Lib.hid hd
    have HG : Hid (dgsB s.data.toList = true) := by show _ = _; simp only [Bool.and_eq_true] at hd; exact hd.1
    obtain ⟨n, hn⟩ : ∃ n, n = (madeL false s.data.toList x).length := ⟨_, rfl⟩
    have HNL := Lib.hid hn
    clear hd hn
    go_enter Try.func23, Try.ntmps23
    go_wp2_with (first | (go_at_call 50; go_must ((with_reducible refine (asked_b _ _ true _ hs HD.out).mono ?_); rintro e w' ⟨rfl, rfl⟩)) | (go_at_call 51; go_must ((with_reducible refine (made_any _ _ _ _ HG.out).mono ?_); rintro e w1 ⟨v, rfl, hst, b1⟩; have HST : Hid (∃ ao cap, v = .slice ao n cap) := (by rcases hst.form with ⟨h1, h2⟩ | ⟨g, cap, h1, _⟩; (rw [h1, HNL.out, h2]; exact ⟨_, _, rfl⟩); (rw [h1, HNL.out]; exact ⟨_, _, rfl⟩)); obtain ⟨ao, cap, rfl⟩ := HST.out; clear hst HST)))
    go_ret2
    exact ⟨ret_ib (by rw [HF.out, HNL.out]) rfl, b1⟩
theorem FnExactCountMade_law (s : ByteArray) (x : Int) (hs : s.size ≤ maxLen) (_hx : (Lit.int .i64 x).wf = true) (w : World) :
    Calls Try.prog 7 #[.string s, .int .i64 x] w fun e w' => e = .returned (.bool true) ∧ Below w.heap.size w w' := by
  have hm := hs
  unfold maxLen at hs
  by_cases hb : s.size ≤ 1048576
  · go_enter Try.func7, Try.ntmps7
    go_wp2_with (first | (go_at_call 23; go_must ((with_reducible refine (sCountMade_any _ _ _ hm).mono ?_); rintro e w1 ⟨rfl, b1⟩)) | (go_at_call 24; go_must ((with_reducible refine (iCountMade_any _ _ _ hm).mono ?_); rintro e w2 ⟨rfl, b2⟩)))
    go_ret
    exact ⟨rfl, chain b1 b2⟩
  · go_enter Try.func7, Try.ntmps7
    go_wp2_with fail
    go_ret
    exact ⟨rfl, Below.refl _ _⟩
theorem iCountPlain_any (s : ByteArray) (x : Int) (w : World) (hs : s.size ≤ maxLen) :
    Calls Try.prog 26 #[.string s, .int .i64 x] w fun e w' => e = .returned (.tuple #[.int .i64 (cwN true s x), .bool (dgsB s.data.toList && numB x)]) ∧ Below w.heap.size w w' := by
  go_enter Try.func26, Try.ntmps26
  go_wp2_with (first | (go_at_call 52; go_must ((with_reducible refine (cw_any s ⟨#[43, 45, 32]⟩ true x _ hs (by decide)).mono ?_); rintro e w1 ⟨rfl, b1⟩)))
  go_ret2
  exact ⟨rfl, b1⟩
set_option maxHeartbeats 400000 in
theorem sCountPlain_any (s : ByteArray) (x : Int) (w : World) (hs : s.size ≤ maxLen) :
    Calls Try.prog 25 #[.string s, .int .i64 x] w fun e w' => e = .returned (.tuple #[.int .i64 (cwN true s x), .bool (dgsB s.data.toList && numB x)]) ∧ Below w.heap.size w w' := by
  cases hd : (dgsB s.data.toList && numB x) with
  | false =>
    have HF : Hid (cwN true s x = 0) := by show _ = _; unfold cwN; rw [hd]; rfl
    have HD := Lib.hid hd
    clear hd
    go_enter Try.func25, Try.ntmps25
    go_wp2_with (first | (go_at_call 50; go_must ((with_reducible refine (asked_b _ _ false _ hs HD.out).mono ?_); rintro e w' ⟨rfl, rfl⟩)))
    go_ret2
    exact ⟨ret_ib HF.out.symm rfl, Below.refl _ _⟩
  | true =>
    have HF : Hid (cwN true s x = ((madeL true s.data.toList x).length : Int)) := by show _ = _; unfold cwN; rw [hd]; rfl
    have HD := Lib.hid hd
    have HG : Hid (dgsB s.data.toList = true) := by show _ = _; simp only [Bool.and_eq_true] at hd; exact hd.1
    obtain ⟨n, hn⟩ : ∃ n, n = (madeL true s.data.toList x).length := ⟨_, rfl⟩
    have HNL := Lib.hid hn
    clear hd hn
    go_enter Try.func25, Try.ntmps25
    go_wp2_with (first | (go_at_call 50; go_must ((with_reducible refine (asked_b _ _ true _ hs HD.out).mono ?_); rintro e w' ⟨rfl, rfl⟩)) | (go_at_call 51; go_must ((with_reducible refine (made_any _ _ _ _ HG.out).mono ?_); rintro e w1 ⟨v, rfl, hst, b1⟩; have HST : Hid (∃ ao cap, v = .slice ao n cap) := (by rcases hst.form with ⟨h1, h2⟩ | ⟨g, cap, h1, _⟩; (rw [h1, HNL.out, h2]; exact ⟨_, _, rfl⟩); (rw [h1, HNL.out]; exact ⟨_, _, rfl⟩)); obtain ⟨ao, cap, rfl⟩ := HST.out; clear hst HST)))
    go_ret2
    exact ⟨ret_ib (by rw [HF.out, HNL.out]) rfl, b1⟩
theorem FnExactCountPlain_law (s : ByteArray) (x : Int) (hs : s.size ≤ maxLen) (_hx : (Lit.int .i64 x).wf = true) (w : World) :
    Calls Try.prog 8 #[.string s, .int .i64 x] w fun e w' => e = .returned (.bool true) ∧ Below w.heap.size w w' := by
  have hm := hs
  unfold maxLen at hs
  by_cases hb : s.size ≤ 1048576
  · go_enter Try.func8, Try.ntmps8
    go_wp2_with (first | (go_at_call 25; go_must ((with_reducible refine (sCountPlain_any _ _ _ hm).mono ?_); rintro e w1 ⟨rfl, b1⟩)) | (go_at_call 26; go_must ((with_reducible refine (iCountPlain_any _ _ _ hm).mono ?_); rintro e w2 ⟨rfl, b2⟩)))
    go_ret
    exact ⟨rfl, chain b1 b2⟩
  · go_enter Try.func8, Try.ntmps8
    go_wp2_with fail
    go_ret
    exact ⟨rfl, Below.refl _ _⟩
end Go.Proofs.Ytlgleghofiflaaa
