/-
  All hidden tickets, as the program lists them.
-/
import Derived.Test.YtakckgbkfnogbaaDoorPzStr
import Derived.Test.YtakckgbkfnogbaaDoorPzMath2
import Derived.Test.YtakckgbkfnogbaaDoorShelf
namespace Go.Proofs.YtakckgbkfnogbaaDoor
open Go.RowKit
set_option maxRecDepth 100000

theorem dec_dig (d : Nat) (h : d ≤ 9) : Lib.decDigits d = [dc d] := by
  rw [Lib.decDigits, dif_pos (by omega)]; rfl
theorem itoa_d (d : Nat) (w : World) (h : d ≤ 9) : Calls Tryd.prog 86 #[.int .i64 d] w fun e w' => e = .returned (.string ⟨#[dc d]⟩) ∧ Below w.heap.size w w' := by
  refine (Tryd.strconv_Itoa_small d (by omega) w).mono ?_
  rintro e w' ⟨rfl, rfl⟩
  rw [dec_dig d h]
  exact ⟨rfl, Below.refl _ _⟩
set_option maxRecDepth 100000 in
theorem l1Num_d (d : Nat) (w : World) (h9 : d ≤ 9) :
    Calls Tryd.prog 85 #[.int .i64 d] w fun e w' => e = .returned (.string ⟨#[dc d]⟩) ∧ Below w.heap.size w w' := by
  have hcv : (convert 65 9 (.slice (some ⟨w.heap.size, 0, none⟩) 1 1)).run Tryd.prog (w.alloc (.cells #[.int .u8 (48 + (d : Int))] 5)) = .ok (.string ⟨[dc d].toArray⟩) (w.alloc (.cells #[.int .u8 (48 + (d : Int))] 5)) :=
    run_convert_bytes_back (P := Tryd.prog) (w.alloc (.cells #[.int .u8 (48 + (d : Int))] 5)) 65 9 5 ⟨w.heap.size, 0, none⟩ 1 [dc d] Tryd.underlying65 Tryd.underlying5 Tryd.underlying9 (by
      intro j hj
      match j, hj with
      | 0, _ => simp [Addr.add, dc_nat (u := d) h9])
  go_enter Tryd.func85, Tryd.ntmps85
  go_wp2
  go_ret
  exact ⟨rfl, (Below.refl _ _).alloc (Nat.le_refl _) _⟩
theorem str_two (l m : List UInt8) : (⟨l.toArray⟩ : ByteArray) ++ ⟨m.toArray⟩ = ⟨(l ++ m).toArray⟩ := by
  apply ByteArray.ext
  simp [ByteArray.data_append]
def hQ (b : List UInt8) (d : Nat) : List (List UInt8) := (List.range d).map (fun d => b ++ [dc d])
theorem hQ_succ (b : List UInt8) (d : Nat) : hQ b (d + 1) = hQ b d ++ [b ++ [dc d]] := by simp [hQ, List.range_succ]
theorem hQ_len (b : List UInt8) (d : Nat) : (hQ b d).length = d := by simp [hQ]
def hP (T : List (List UInt8)) (i : Nat) : List (List UInt8) := (T.take i).flatMap (fun b => hQ b 6)
theorem hP_succ (T : List (List UInt8)) (i : Nat) (h : i < T.length) : hP T (i + 1) = hP T i ++ hQ (T.getD i []) 6 := by
  unfold hP
  rw [take_getD T i [] h, List.flatMap_append]
  simp
theorem hP_len (T : List (List UInt8)) (i : Nat) (h : i ≤ T.length) : (hP T i).length = i * 6 := by
  induction i with
  | zero => simp [hP]
  | succ i ih => rw [hP_succ T i (by omega), List.length_append, ih (by omega), hQ_len]; omega
theorem hP_all (r : Nat) : hP (hT r) (hT r).length = hT (r + 1) := by
  unfold hP
  rw [List.take_length]
  rfl
theorem six_le (r : Nat) (h : r ≤ 4) : (hT r).length ≤ 1296 ∧ (r ≤ 3 → (hT r).length ≤ 216) := by
  rw [hT_len]
  rcases (show r = 0 ∨ r = 1 ∨ r = 2 ∨ r = 3 ∨ r = 4 by omega) with rfl | rfl | rfl | rfl | rfl <;> decide
theorem Strs.q0 {B j : Nat} {T : List (List UInt8)} {v : Value} {w : World} (b : List UInt8) (h : Strs B (hP T j) v w) : Strs B (hP T j ++ hQ b 0) v w := by simpa [hQ] using h
theorem Strs.kp {B : Nat} {ts : List (List UInt8)} {v : Value} {w w' : World} {row : Option Nat} (h : Strs B ts v w) (k : w.grownBy w' row) (hne : v.ownBlock ≠ row) : Strs B ts v w' := World.ownsRow.kept h k (.inr hne)
/-- One text more, in a row of the call's own; another row stays. -/
theorem append_str1 (w : World) {ops : Array Oper} {rest : List Oper} {o : Oper} {a : Act} {Q : Exit → Act → World → Prop} (hgd : o.guard = none) (s x : Operand)
    (ho : o.op = .call { callee := .builtin .append, args := #[s, x], argTypes := #[33, 33] })
    (B : Nat) (ts : List (List UInt8)) (v : Value) (hs : a.eval s = v) (hown : Strs B ts v w) (k : Nat) (z : ByteArray) (u : List UInt8) (hx : a.eval x = .slice (some ⟨k, 0, none⟩) 1 1) (hk : w.cell? ⟨k, 0, none⟩ = some (.string z)) (hz : z = ⟨u.toArray⟩)
    (hlen : ts.length ≤ 100000) (hB : B ≤ w.heap.size)
    (h : ∀ v' w', Strs B (ts ++ [u]) v' w' → w.grownBy w' v.ownBlock → (v'.ownBlock = v.ownBlock ∨ v'.ownBlock = some w.heap.size) → wpList Tryd.prog ops Q rest (a.put o.dst v') w') :
    wpList Tryd.prog ops Q (o :: rest) a w := by
  obtain ⟨i0, hi, hz0, hz1, hz2⟩ := info_parts (show (Tryd.prog.info? 9).map (fun i => (i.zero, i.size, i.bytes)) = some (some (.string ⟨#[]⟩), 1, 16) by kernel_rfl)
  refine wpList_append_own_at _ hgd s x 33 ho B 9 i0 (.string ⟨#[]⟩) 1 16 Tryd.underlying33 hi hz0 hz1 hz2 rfl (by decide) v ts.length (ts.map strV) hs hown ⟨k, 0, none⟩ 1 1 [strV u] hx (by simp) ?_ ?_ ?_ ?_ hB ?_
  · intro j y hj
    match j, hj with
    | 0, hj => simp at hj; subst hj; subst hz; simpa [Addr.add, strV] using hk
  · intro y hy; simp at hy; subst hy; rfl
  · unfold maxLen; omega
  · omega
  · intro v' w' h1 hg _ ho2
    exact h v' w' (by unfold Strs; simpa using h1) hg ho2
set_option maxHeartbeats 8000000 in
theorem hidden_any (w : World) :
    Calls Tryd.prog 66 #[] w fun e w' => (∃ v, e = .returned v ∧ Strs w.heap.size (hT 4) v w') ∧ Below w.heap.size w w' := by
  go_enter Tryd.func66, Tryd.ntmps66
  go_wp2
  have HS0 : Hid (Strs w.heap.size (hT 0) (.slice (some ⟨w.heap.size, 0, none⟩) 1 1) (w.alloc (.cells #[.string ⟨#[]⟩] 9))) := Strs.one [] w
  have HB0 : Below w.heap.size w (w.alloc (.cells #[.string ⟨#[]⟩] 9)) := (Below.refl _ _).alloc (Nat.le_refl _) _
  go_loopw [1, 7] (fun v i wr => ∃ r : Nat, r ≤ 4 ∧ i = .int .i64 r ∧ Hid (Strs w.heap.size (hT r) v wr) ∧ Below w.heap.size w wr) (fun _ i _ => 4 - (intOf i).toNat)
  case atStart => exact ⟨0, Nat.zero_le _, rfl, HS0, HB0⟩
  case round =>
    clear HS0 HB0
    obtain ⟨r, hr, rfl, HS, hbl⟩ := hrel
    obtain ⟨wo, rfl⟩ : ∃ wo : World, wo = wr := ⟨_, rfl⟩
    by_cases hlt : r < 4
    · have hlI : (r : Int) < 4 := by omega
      have h6 := (six_le r hr).2 (by omega)
      have hpos : 0 < (hT r).length := by rw [hT_len]; exact Nat.pow_pos (by omega)
      rcases HS.out.form with ⟨_, h0⟩ | ⟨g, cap, rfl, hBg, hg, hc, _⟩
      · omega
      obtain ⟨T, hT0⟩ : ∃ T, T = hT r := ⟨_, rfl⟩
      have HT := Lib.hid hT0
      rw [← hT0] at hc h6 HS hpos ⊢
      have HC := Lib.hid hc
      have HD : Hid (∀ j, j < T.length → (T.getD j []).length ≤ 4) := by
        intro j hj
        have := (hT_mem r (T.getD j []) (by rw [← hT0]; exact mem_getD T j [] hj)).1
        omega
      obtain ⟨N, hN⟩ : ∃ N, N = T.length := ⟨_, rfl⟩
      have HN := Lib.hid hN
      rw [← hN]
      rw [← hN] at h6 hpos
      clear hc hT0 hN
      go_wp2
      have HP0 : Hid (Strs w.heap.size (hP T 0) (.slice none 0 0) wo) := by show Strs _ _ _ _; simp only [hP, List.take_zero, List.flatMap_nil]; exact Strs.nil _ _
      go_loopw [2, 11] (fun v i wr => ∃ j : Nat, j ≤ N ∧ i = .int .i64 j ∧ Hid (Strs w.heap.size (hP T j) v wr) ∧ Below w.heap.size w wr ∧ Hid (Strs w.heap.size T (.slice (some ⟨g, 0, none⟩) N cap) wr) ∧ Hid (v.ownBlock ≠ some g)) (fun _ i _ => N - (intOf i).toNat)
      case atStart => exact ⟨0, Nat.zero_le _, rfl, HP0, hbl, by show Strs _ _ _ _; rw [HN.out]; exact HS.out, by show _ ≠ _; simp [Value.ownBlock]⟩
      case round =>
        clear HP0
        obtain ⟨j, hj, rfl, HP, hbl2, HT2, HNE⟩ := hrel
        obtain ⟨wp, rfl⟩ : ∃ wp : World, wp = wr := ⟨_, rfl⟩
        by_cases hlt2 : j < N
        · have hjl : j < T.length := by rw [← HN.out]; exact hlt2
          have hjI : (j : Int) < (N : Int) := by omega
          have e0 : wp.cell? ⟨g, j, none⟩ = some (strV (T.getD j [])) := by
            rcases HT2.out.form with ⟨hv, _⟩ | ⟨g', cap', hv, _, _, hc', _⟩
            · cases hv
            · simp only [Value.slice.injEq, Option.some.injEq, Addr.mk.injEq] at hv
              obtain ⟨⟨rfl, _⟩, _, _⟩ := hv
              exact hc' j hjl
          have hbd := HD.out j hjl
          have HPS := Lib.hid (hP_succ T j hjl)
          have HPL := hP_len T j (by omega)
          obtain ⟨b, hb⟩ : ∃ b, b = T.getD j [] := ⟨_, rfl⟩
          rw [← hb] at e0 hbd HPS
          obtain ⟨tb, htb⟩ : ∃ tb : ByteArray, tb = ⟨b.toArray⟩ := ⟨_, rfl⟩
          have HTB := Lib.hid htb
          have hsz : tb.size ≤ 4 := by rw [htb]; simpa [ByteArray.size] using hbd
          unfold strV at e0
          rw [← htb] at e0
          clear hb htb
          go_wp2
          have HQ0 := Lib.hid (Strs.q0 b HP.out)
          go_loopw [2, 15] (fun v i wr => ∃ d : Nat, d ≤ 6 ∧ i = .int .i64 d ∧ Hid (Strs w.heap.size (hP T j ++ hQ b d) v wr) ∧ Below w.heap.size w wr ∧ Hid (Strs w.heap.size T (.slice (some ⟨g, 0, none⟩) N cap) wr) ∧ Hid (v.ownBlock ≠ some g)) (fun _ i _ => 6 - (intOf i).toNat)
          case atStart => exact ⟨0, Nat.zero_le _, rfl, HQ0, hbl2, HT2, HNE⟩
          case round =>
            clear HQ0
            obtain ⟨d, hd, rfl, HQ, hbl3, HT3, HNF⟩ := hrel
            obtain ⟨wq, rfl⟩ : ∃ wq : World, wq = wr := ⟨_, rfl⟩
            by_cases hlt3 : d < 6
            · have hdI : (d : Int) < 6 := by omega
              have HQS := Lib.hid (hQ_succ b d)
              have hql : (hP T j ++ hQ b d).length ≤ 2000 := by rw [List.length_append, hQ_len, HPL]; omega
              have HQL := Lib.hid hql
              obtain ⟨D, hDD⟩ : ∃ D : ByteArray, (⟨#[dc d]⟩ : ByteArray) = D := ⟨_, rfl⟩
              have HI := fun W => Lib.hid (itoa_d d W (by omega))
              rw [hDD] at HI
              have hDs : D.size = 1 := by rw [← hDD]; rfl
              have HX : Hid (tb ++ D = ⟨(b ++ [dc d]).toArray⟩) := by show _ = _; rw [HTB.out, ← hDD]; exact str_two b [dc d]
              have hsz3 := hbl3.size
              clear hDD hql
              go_wp2_with (first
                | (go_at_call 86; (with_reducible refine (HI _).out.mono ?_); rintro e w1 ⟨rfl, b1⟩)
                | (at_builtin; refine append_str1 _ rfl _ _ rfl w.heap.size (hP T j ++ hQ b d) _ rfl ((HQ.out.below b1).alloc _) w1.heap.size (tb ++ D) (b ++ [dc d]) rfl (by simp) HX.out (by have := HQL.out; omega) (by have := b1.size; simp only [World.size_alloc]; omega) ?_; intro v2 w2 u2 g2 o2))
              have hb1 := hbl3.trans (b1.mono hsz3)
              have B9 : Below w.heap.size w w2 := (hb1.alloc hb1.size (.cells #[.string (tb ++ D)] 9)).grown g2 (by have := hb1.size; simp only [World.size_alloc]; omega) (fun q hq => (World.ownsRow.lt HQ.out q hq).1)
              have HT9 := Lib.hid (((HT3.out.below b1).alloc (.cells #[.string (tb ++ D)] 9)).kp g2 (fun e => HNF.out e.symm))
              have HN9 : Hid (v2.ownBlock ≠ some g) := by
                show _ ≠ _
                rcases o2 with e | e
                · rw [e]; exact HNF.out
                · rw [e]; intro h
                  have h1 := HT3.out.own_lt g rfl
                  have h2 := b1.size
                  simp only [World.size_alloc, Option.some.injEq] at h
                  omega
              go_roundw
              case rel => exact ⟨d + 1, by omega, by go_num, by show Strs _ _ _ _; rw [HQS.out, ← List.append_assoc]; exact u2, B9, HT9, HN9⟩
              case measure => simp [intOf]; omega
            · have HE : Hid (hP T j ++ hQ b d = hP T (j + 1)) := by show _ = _; rw [HPS.out, show d = 6 by omega]
              go_wp2
              go_roundw
              case rel => exact ⟨j + 1, by omega, by go_num, by show Strs _ _ _ _; rw [← HE.out]; exact HQ.out, hbl3, HT3, HNF⟩
              case measure => simp [intOf]; omega
        · have HE : Hid (hP T j = hT (r + 1)) := by show _ = _; rw [show j = T.length by have := HN.out; omega, HT.out, hP_all]
          go_wp2
          go_roundw
          case rel => exact ⟨r + 1, by omega, by go_num, by show Strs _ _ _ _; rw [← HE.out]; exact HP.out, hbl2⟩
          case measure => simp [intOf]; omega
    · have HE : Hid (hT r = hT 4) := by show _ = _; rw [show r = 4 by omega]
      go_wp2
      go_ret
      exact ⟨⟨_, rfl, by rw [← HE.out]; exact HS.out⟩, hbl⟩
end Go.Proofs.YtakckgbkfnogbaaDoor
