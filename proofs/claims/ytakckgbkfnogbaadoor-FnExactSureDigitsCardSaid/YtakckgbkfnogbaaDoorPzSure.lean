/-
  Sure digits: the model's side.
-/
import Derived.Test.YtakckgbkfnogbaaDoorPzPub
namespace Go.Proofs.YtakckgbkfnogbaaDoor
open Go.RowKit
set_option maxRecDepth 100000

def sdA (cs : List Cl) : ByteArray := if fsB cs then ⟨(sureL (solP cs) ((solP cs).getD 0 [])).toArray⟩ else ⟨#[]⟩
theorem sdA_no {cs : List Cl} (h : fsB cs = false) : sdA cs = ⟨#[]⟩ := by unfold sdA; rw [if_neg (by rw [h]; simp)]
theorem sdA_yes {cs : List Cl} (h : fsB cs = true) : sdA cs = ⟨(sureL (solP cs) ((solP cs).getD 0 [])).toArray⟩ := by unfold sdA; rw [if_pos h]
theorem app1 (l : List UInt8) (c : UInt8) : (⟨l.toArray⟩ : ByteArray) ++ ⟨#[c]⟩ = ⟨(l ++ [c]).toArray⟩ := by
  apply ByteArray.ext
  simp [ByteArray.data_append]
theorem ext1 (t : List UInt8) (i : Nat) (h : i < t.length) : (⟨t.toArray⟩ : ByteArray).extract i (i + 1) = ⟨#[t.getD i 48]⟩ := by
  apply ByteArray.ext
  simp only [ByteArray.data_extract]
  apply Array.ext'
  simp [List.getD_eq_getElem?_getD, List.getElem?_eq_getElem h]
  rw [List.take_one, List.head?_drop]
  simp [List.getElem?_eq_getElem h]
def sureP (S : List (List UInt8)) (f : List UInt8) (i : Nat) : ByteArray := ⟨((List.range i).map (sureAt S f)).toArray⟩
theorem sureP_succ (S : List (List UInt8)) (f : List UInt8) (i : Nat) : sureP S f i ++ ⟨#[sureAt S f i]⟩ = sureP S f (i + 1) := by
  unfold sureP; rw [app1, List.range_succ, List.map_append]; rfl
theorem sol_len4 {cs : List Cl} {l : List UInt8} (h : l ∈ sol cs) : l.length = 4 := by
  have := (hid_at (s := ⟨l.toArray⟩) (by simpa using sol_hid cs l h)).1
  simpa [ByteArray.size] using this
theorem sureAt_all {S : List (List UInt8)} {f : List UInt8} {i : Nat} (h : ∀ j, j < S.length → (S.getD j []).getD i 48 = f.getD i 48) : sureAt S f i = f.getD i 48 := by
  unfold sureAt
  rw [if_pos]
  rw [List.all_eq_true]
  intro t ht
  obtain ⟨j, hj, rfl⟩ := List.mem_iff_getElem.1 ht
  have := h j hj
  have e : S.getD j [] = S[j] := by rw [List.getD_eq_getElem?_getD, List.getElem?_eq_getElem hj]; rfl
  rw [e] at this
  simpa using this
set_option maxHeartbeats 2000000 in
theorem sSd_any (cs : List Cl) (v : Value) (w : World) (hn : cs.length ≤ 1048576) (h : RdC cs v w) :
    Calls Tryd.prog 27 #[.agg #[v]] w fun e w' => e = .returned (.tuple #[.string (sdA cs), .bool (fsB cs)]) ∧ Below w.heap.size w w' := by
  have HV := Lib.hid h
  have HR := Lib.hid (h.alloc (.cells #[v] 38))
  clear h
  have hb : Below w.heap.size w (w.alloc (.cells #[v] 38)) := (Below.refl _ _).alloc (Nat.le_refl _) _
  have HB := Lib.hid hb
  clear hb
  cases hg : pzB cs with
  | false =>
    have HG := Lib.hid hg
    have hf : fsB cs = false := by unfold fsB; rw [solP_no hg]; rfl
    have HBb := Lib.hid hf
    have HA := Lib.hid (sdA_no hf)
    clear hg hf
    go_enter Tryd.func27, Tryd.ntmps27
    go_wp2_with (go_at_call 45; (with_reducible refine (pzGood_b cs false v _ hn HR.out HG.out).mono ?_); rintro e w1 ⟨rfl, b1⟩)
    go_ret2
    exact ⟨ret_sb HA.out.symm HBb.out.symm, chain HB.out b1⟩
  | true =>
    have HG := Lib.hid hg
    have hl6 := pz_len hg
    have hall := AllC.of hg
    have HQ := Lib.hid (fun W (hr : RdC cs v W) => pzAll_any cs v W (by omega) hall hr)
    have hl4 : ∀ j, j < (sol cs).length → ((sol cs).getD j []).length = 4 := fun j hj => sol_len4 (mem_getD _ j _ hj)
    have hSl := sol_len cs
    have hSA : fsB cs = true → sdA cs = ⟨(sureL (sol cs) ((sol cs).getD 0 [])).toArray⟩ := fun h => by rw [sdA_yes h, solP_yes hg]
    have hBb : fsB cs = decide (0 < (sol cs).length) := by unfold fsB; rw [solP_yes hg]
    obtain ⟨S, hS⟩ : ∃ S, sol cs = S := ⟨_, rfl⟩
    rw [hS] at HQ hl4 hSA hBb hSl
    clear hg hall hS
    by_cases h0 : S.length = 0
    · obtain rfl := List.eq_nil_of_length_eq_zero h0
      have hf : fsB cs = false := by rw [hBb]; rfl
      have HBb := Lib.hid hf
      have HA := Lib.hid (sdA_no hf)
      clear h0 hf hBb hSA hl4
      go_enter Tryd.func27, Tryd.ntmps27
      go_wp2_with (first
        | (go_at_call 45; (with_reducible refine (pzGood_b cs true v _ hn HR.out HG.out).mono ?_); rintro e w1 ⟨rfl, b1⟩; have e0 := (blk1 (box_at w _ b1)).1; have hz := box_lt w _ b1; have B1 := chain HB.out b1; have A1 := HV.out.below B1)
        | (go_at_call 46; (refine (HQ.out _ A1).mono ?_); rintro e w2 ⟨⟨u, rfl, hu⟩, b2⟩; obtain ⟨a, cap, rfl⟩ := hu.val))
      go_ret2
      exact ⟨ret_sb HA.out.symm HBb.out.symm, chain B1 b2⟩
    · have hp : 0 < S.length := by omega
      have hf : fsB cs = true := by rw [hBb, decide_eq_true hp]
      have HBb := Lib.hid hf
      have HA := Lib.hid (hSA hf)
      have hpi : (0 : Int) < (S.length : Int) := by omega
      have hq : ((S.length : Int) == 0) = false := by rw [beq_eq_false_iff_ne]; omega
      obtain ⟨n, hnn⟩ : ∃ n, n = S.length := ⟨_, rfl⟩
      have HN := Lib.hid hnn
      have HP := Lib.hid hp
      have HL4 := Lib.hid hl4
      rw [← hnn] at hpi hq hSl
      obtain ⟨F, hF⟩ : ∃ s : ByteArray, (⟨(S.getD 0 []).toArray⟩ : ByteArray) = s := ⟨_, rfl⟩
      have hF4 : F.size = 4 := by rw [← hF]; have := hl4 0 hp; simpa [ByteArray.size] using this
      have HF := Lib.hid hF
      clear h0 hp hnn hf hBb hSA hl4 hF
      go_enter Tryd.func27, Tryd.ntmps27
      go_wp2_with (first
        | (go_at_call 45; (with_reducible refine (pzGood_b cs true v _ hn HR.out HG.out).mono ?_); rintro e w1 ⟨rfl, b1⟩; have e0 := (blk1 (box_at w _ b1)).1; have hz := box_lt w _ b1; have B1 := chain HB.out b1; have A1 := HV.out.below B1)
        | (go_at_call 46; (refine (HQ.out _ A1).mono ?_); rintro e w2 ⟨⟨u, rfl, hu⟩, b2⟩; obtain ⟨g, cap, rfl, _, hg, hc⟩ := hu.pos HP.out; have c0 := hc 0 HP.out; unfold strV at c0; rw [HF.out] at c0; rw [← HN.out]; have HC := Lib.hid hc; clear hc))
      have B2 := Lib.hid (chain B1 b2)
      clear B1 A1 b1 b2 hu e0 hz
      have HO0 : Hid ((⟨#[]⟩ : ByteArray) = sureP S (S.getD 0 []) 0) := by show _ = _; rfl
      go_loopw [5, 6] (fun ov iv wr => ∃ (i : Nat) (o : ByteArray), i ≤ 4 ∧ iv = .int .i64 i ∧ ov = .string o ∧ Hid (o = sureP S (S.getD 0 []) i) ∧ w2 = wr) (fun _ iv _ => 4 - (intOf iv).toNat)
      case atStart => exact ⟨0, ⟨#[]⟩, by omega, rfl, rfl, HO0, rfl⟩
      case round =>
        clear HO0
        obtain ⟨i, o, hi, rfl, rfl, HO, rfl⟩ := hrel
        by_cases hlt : i < 4
        · obtain ⟨sg, hsg⟩ : ∃ x, F.extract i (i + 1) = x := ⟨_, rfl⟩
          have HSG : Hid (sg = ⟨#[(S.getD 0 []).getD i 48]⟩) := by
            show _ = _
            rw [← hsg, ← HF.out]; exact ext1 _ i (by have := HL4.out 0 HP.out; omega)
          have hiI : (i : Int) < 4 := by omega
          have hos : o.size ≤ 4 := by rw [HO.out]; simp [sureP, ByteArray.size]; omega
          have hsg1 : sg.size ≤ 1 := by rw [HSG.out]; exact Nat.le_of_eq rfl
          go_wp2
          go_loopw [7, 32] (fun sv jv wr => ∃ j : Nat, j ≤ n ∧ jv = .int .i64 j ∧ sv = .string sg ∧ Hid (∀ q, q < j → (S.getD q []).getD i 48 = (S.getD 0 []).getD i 48) ∧ w2 = wr) (fun _ jv _ => n - (intOf jv).toNat)
          case atStart => exact ⟨0, Nat.zero_le _, rfl, rfl, fun q hq => by omega, rfl⟩
          case round =>
            obtain ⟨j, hj, rfl, rfl, HAG, rfl⟩ := hrel
            by_cases hjn : j < n
            · have hjS : j < S.length := by rw [← HN.out]; exact hjn
              have hjI : (j : Int) < (n : Int) := by omega
              have cj := HC.out j hjS
              unfold strV at cj
              have hx := ext1 (S.getD j []) i (by have := HL4.out j hjS; omega)
              have hs4 : (⟨(S.getD j []).toArray⟩ : ByteArray).size = 4 := by have := HL4.out j hjS; simpa [ByteArray.size] using this
              obtain ⟨s, hs⟩ : ∃ s : ByteArray, (⟨(S.getD j []).toArray⟩ : ByteArray) = s := ⟨_, rfl⟩
              rw [hs] at cj hx hs4
              by_cases he : (S.getD j []).getD i 48 = (S.getD 0 []).getD i 48
              · have hxe : s.extract i (i + 1) = sg := by rw [hx, HSG.out, he]
                have HAG2 : Hid (∀ q, q < j + 1 → (S.getD q []).getD i 48 = (S.getD 0 []).getD i 48) := by
                  intro q hq
                  by_cases e : q = j
                  · subst e; exact he
                  · exact HAG.out q (by omega)
                clear he hx hs
                go_wp2
                go_roundw
                case rel => exact ⟨j + 1, by omega, by go_num, rfl, HAG2, by first | rfl | trivial⟩
                case measure => simp [intOf]; omega
              · have hxb : ((s.extract i (i + 1)).toList == sg.toList) = false := by
                  rw [beq_eq_false_iff_ne, Go.ByteArray.toList_eq, Go.ByteArray.toList_eq, hx, HSG.out]; intro h; apply he
                  simpa using h
                have HO2 : Hid (o ++ ⟨#[63]⟩ = sureP S (S.getD 0 []) (i + 1)) := by
                  show _ = _
                  rw [← sureP_succ, ← HO.out, sureAt_no (mem_getD S j [] hjS) he]
                clear he hx hs
                go_wp2
                go_roundw
                case rel => exact ⟨i + 1, _, by omega, by go_num, rfl, HO2, by first | rfl | trivial⟩
                case measure => simp [intOf]; omega
            · have HO2 : Hid (o ++ sg = sureP S (S.getD 0 []) (i + 1)) := by
                show _ = _
                rw [← sureP_succ, ← HO.out, HSG.out, sureAt_all (fun q hq => HAG.out q (by have := HN.out; omega))]
              have hjI : ¬ (j : Int) < (n : Int) := by omega
              go_wp2
              go_roundw
              case rel => exact ⟨i + 1, _, by omega, by go_num, rfl, HO2, by first | rfl | trivial⟩
              case measure => simp [intOf]; omega
        · have HE : Hid (o = sdA cs) := by show _ = _; rw [HO.out, HA.out, show i = 4 by omega]; rfl
          have hiI : ¬ (i : Int) < 4 := by omega
          go_wp2
          go_ret2
          exact ⟨ret_sb HE.out HBb.out.symm, B2.out⟩
end Go.Proofs.YtakckgbkfnogbaaDoor
