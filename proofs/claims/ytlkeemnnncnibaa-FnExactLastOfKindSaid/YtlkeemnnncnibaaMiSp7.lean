/-
  Readings: beginnings of mirrored ones and of those upside down.
-/
import Derived.Test.YtlkeemnnncnibaaMiSp6
namespace Go.Proofs.Ytlkeemnnncnibaa
open Go.RowKit

theorem opp_no (o : Nat → Nat) (hinv : ∀ u v, u ≤ 9 → v ≤ 9 → o u = v → o v = u) (n : Nat) (b : List UInt8) (i u : Nat) (hb : b.length ≤ n) (hd : digB b = true) (hi : i < b.length) (hu : u ≤ 9) (hbi : b[i]? = some (dc u)) (h : ∀ v, v ≤ 9 → (n - 1 - i < b.length → b[n - 1 - i]? = some (dc v)) → o u ≠ v) : cK (Io o) (n - b.length) b = 0 := by
  unfold cK
  rw [List.length_eq_zero_iff]
  apply List.eq_nil_iff_forall_not_mem.2
  intro t ht
  obtain ⟨h1, r, h2, h3, h4⟩ := LK_mem _ _ _ _ ht
  have htd : digB t = true := by rw [h2, digB_append, hd, h4]; rfl
  have htl : t.length = n := by rw [h2, List.length_append, h3]; omega
  obtain ⟨v, hv, hv2⟩ := dig_at t htd (n - 1 - i) (by omega)
  have hti : t[i]? = some (dc u) := by rw [h2, List.getElem?_append_left hi]; exact hbi
  have := (Io_all o hinv t htd).1 h1 i u v (by omega) hu hv hti (by rw [htl]; exact hv2)
  refine h v hv (fun hlt => ?_) this
  rw [h2, List.getElem?_append_left hlt] at hv2
  exact hv2
theorem data_ix (b : List UInt8) (s : ByteArray) (hs : s = ⟨b.toArray⟩) (i : Nat) (h : i < s.size) : b[i]? = some s[i] := by
  subst hs
  have : i < b.length := by rw [sz_of] at h; exact h
  exact List.getElem?_eq_getElem this
theorem ext1_toL (s : ByteArray) (k : Nat) (h : k < s.size) : (s.extract k (k + 1)).toList = [s[k]] := by
  have := str_snoc [] s k h
  have e : (⟨([] : List UInt8).toArray⟩ : ByteArray) ++ s.extract k (k + 1) = s.extract k (k + 1) := by
    apply ByteArray.ext
    simp [ByteArray.data_append]
  rw [e] at this
  rw [this, toL]; rfl
theorem ext1_data (s : ByteArray) (k : Nat) (h : k < s.size) : (s.extract k (k + 1)).data.toList = [s[k]] := by
  rw [← Go.ByteArray.toList_eq]; exact ext1_toL s k h
theorem can_yes (n : Nat) (k : ByteArray) (b : List UInt8) (hb : b.length < n) : Can n k b true := ⟨fun h => by omega, fun h => by cases h⟩
set_option maxRecDepth 100000 in
set_option maxHeartbeats 2000000 in
theorem canM_any (n : Nat) (b : List UInt8) (w : World) (hn : n ≤ 9) (hb : b.length < n) (hd : digB b = true) :
    Calls Try.prog 69 #[.int .i64 n, .string ⟨b.toArray⟩, .string ⟨#[109]⟩] w fun e w' => CanE n ⟨#[109]⟩ b e ∧ Below w.heap.size w w' := by
  obtain ⟨s, hs⟩ : ∃ s : ByteArray, s = ⟨b.toArray⟩ := ⟨_, rfl⟩
  have hsz : s.size = b.length := by rw [hs, sz_of]
  have HY := Lib.hid (can_yes n ⟨#[109]⟩ b hb)
  have HNO : Hid (∀ i j (hi : i < s.size) (hj : j < s.size), i + j + 1 = n → s[j] ≠ s[i] → Can n ⟨#[109]⟩ b false) := by
    intro i j hi hj hij hne
    refine ⟨fun h => by omega, fun _ => ?_⟩
    rw [KI_m]
    obtain ⟨u, hu, hbu⟩ := dig_at b hd i (by omega)
    refine opp_no mir mir_inv n b i u (by omega) hd (by omega) hu hbu (fun v hv hx hm => ?_)
    have h1 := hx (by omega)
    rw [show n - 1 - i = j by omega, data_ix b s hs j hj] at h1
    rw [data_ix b s hs i hi] at hbu
    apply hne
    have e1 : s[j] = dc v := by simpa using h1
    have e2 : s[i] = dc u := by simpa using hbu
    rw [e1, e2]; unfold mir at hm; rw [hm]
  have hlt : s.size < n := by omega
  have hnn : ((s.size : Int) == (n : Int)) = false := beq_eq_false_iff_ne.2 (by omega)
  rw [← hs]
  clear hs hsz hd hb
  go_enter Try.func69, Try.ntmps69
  go_wp2
  go_loop [8] (fun iv => ∃ i : Nat, i ≤ s.size ∧ iv = .int .i64 i) (fun iv => s.size - (intOf iv).toNat)
  case atStart => exact ⟨0, Nat.zero_le _, rfl⟩
  case round =>
    obtain ⟨i, hi, rfl⟩ := hrel
    by_cases hil : i < s.size
    · obtain ⟨j, hj⟩ : ∃ j, i + j + 1 = n := ⟨n - 1 - i, by omega⟩
      have hji : (n : Int) - 1 - (i : Int) = (j : Int) := by omega
      have HJ := Lib.hid hj
      obtain ⟨O, hO⟩ : ∃ O : ByteArray, s.extract i (i + 1) = O := ⟨_, rfl⟩
      have HO : Hid (O.toList = [s[i]]) := by show _ = _; rw [← hO]; exact ext1_toL s i hil
      clear hj
      by_cases hjl : j < s.size
      · obtain ⟨P, hP⟩ : ∃ P : ByteArray, s.extract j (j + 1) = P := ⟨_, rfl⟩
        have HP : Hid (P.toList = [s[j]]) := by show _ = _; rw [← hP]; exact ext1_toL s j hjl
        by_cases he : s[j] = s[i]
        · have hq : (P.toList == O.toList) = true := by rw [HP.out, HO.out, he]; simp
          clear he
          go_wp2
          go_round
          case rel => exact ⟨i + 1, by omega, by go_num⟩
          case measure => simp [intOf]; omega
        · have hq : (P.toList == O.toList) = false := by rw [HP.out, HO.out, beq_eq_false_iff_ne]; intro h; exact he (by simpa using h)
          have HX := Lib.hid (HNO.out i j hil hjl HJ.out he)
          clear he
          go_wp2
          go_ret
          exact ⟨⟨_, rfl, HX.out⟩, Below.refl _ _⟩
      · go_wp2
        go_round
        case rel => exact ⟨i + 1, by omega, by go_num⟩
        case measure => simp [intOf]; omega
    · go_wp2
      go_ret
      exact ⟨⟨_, rfl, HY.out⟩, Below.refl _ _⟩
set_option maxRecDepth 100000 in
set_option maxHeartbeats 4000000 in
theorem canU_any (n : Nat) (b : List UInt8) (w : World) (hn : n ≤ 9) (hb : b.length < n) (hd : digB b = true) :
    Calls Try.prog 69 #[.int .i64 n, .string ⟨b.toArray⟩, .string ⟨#[117]⟩] w fun e w' => CanE n ⟨#[117]⟩ b e ∧ Below w.heap.size w w' := by
  obtain ⟨s, hs⟩ : ∃ s : ByteArray, s = ⟨b.toArray⟩ := ⟨_, rfl⟩
  have hsz : s.size = b.length := by rw [hs, sz_of]
  have HY := Lib.hid (can_yes n ⟨#[117]⟩ b hb)
  have HNO : Hid (∀ i u (hi : i < s.size), u ≤ 9 → s[i] = dc u → (∀ v, v ≤ 9 → (n - 1 - i < b.length → b[n - 1 - i]? = some (dc v)) → ups u ≠ v) → Can n ⟨#[117]⟩ b false) := by
    intro i u hi hu hsu hx
    refine ⟨fun h => by omega, fun _ => ?_⟩
    rw [KI_u]
    exact opp_no ups ups_inv n b i u (by omega) hd (by omega) hu (by rw [data_ix b s hs i hi, hsu]) hx
  have HIX : Hid (∀ i (hi : i < s.size), b[i]? = some s[i]) := fun i hi => data_ix b s hs i hi
  have HDC : Hid (∀ i (hi : i < s.size), ∃ u, u ≤ 9 ∧ s[i] = dc u) := by
    intro i hi
    obtain ⟨u, hu, hbu⟩ := dig_at b hd i (by omega)
    rw [data_ix b s hs i hi] at hbu
    exact ⟨u, hu, by simpa using hbu⟩
  have hlt : s.size < n := by omega
  have hnn : ((s.size : Int) == (n : Int)) = false := beq_eq_false_iff_ne.2 (by omega)
  have HSZ := Lib.hid hsz
  rw [← hs]
  clear hs hsz hd hb
  go_enter Try.func69, Try.ntmps69
  go_wp2
  go_loop [8] (fun iv => ∃ i : Nat, i ≤ s.size ∧ iv = .int .i64 i) (fun iv => s.size - (intOf iv).toNat)
  case atStart => exact ⟨0, Nat.zero_le _, rfl⟩
  case round =>
    obtain ⟨i, hi, rfl⟩ := hrel
    by_cases hil : i < s.size
    · obtain ⟨j, hj⟩ : ∃ j, i + j + 1 = n := ⟨n - 1 - i, by omega⟩
      have hji : (n : Int) - 1 - (i : Int) = (j : Int) := by omega
      have HJ := Lib.hid hj
      obtain ⟨u, hu, hsu⟩ := HDC.out i hil
      have HSU := Lib.hid hsu
      obtain ⟨O, hO⟩ : ∃ O : ByteArray, s.extract i (i + 1) = O := ⟨_, rfl⟩
      have hOd : O.data.toList = [dc u] := by rw [← hO, ext1_data s i hil, hsu]
      have hOs : O.size = 1 := by
        have := congrArg List.length hOd
        simpa using this
      have hup := fun W => miUpside_any O W (by omega) (by rw [hOd]; simp [digB, dg_dc hu])
      have e1 : upB O.data.toList = decide (ups u ≤ 9) := by rw [hOd]; unfold upB; simp [upD_dc hu]
      rw [e1] at hup
      have HNX := Lib.hid (HNO.out i u hil hu hsu)
      clear hj hsu
      by_cases hok : ups u ≤ 9
      · have e2 : upA O = ⟨[dc (ups u)].toArray⟩ := by
          unfold upA
          rw [e1, decide_eq_true hok, if_pos rfl, hOd]; unfold upL; simp [upc_dc hu]
        rw [e2, decide_eq_true hok] at hup
        obtain ⟨Q, hQ⟩ : ∃ Q : ByteArray, Q = ⟨[dc (ups u)].toArray⟩ := ⟨_, rfl⟩
        have HQ : Hid (Q.toList = [dc (ups u)]) := by show _ = _; rw [hQ, toL]
        have HO : Hid (O.toList = [dc u]) := by show _ = _; rw [Go.ByteArray.toList_eq]; exact hOd
        rw [← hQ] at hup
        have HUP := Lib.hid hup
        have HOK := Lib.hid hok
        clear hup e1 e2 hQ hOd hok
        by_cases hmid : j = i
        · have hji2 : ((2 : Int) * (i : Int) + 1 == (n : Int)) = true := by rw [beq_iff_eq]; have := HJ.out; omega
          by_cases hself : ups u = u
          · have hq1 : (Q.toList == O.toList) = true := by rw [HQ.out, HO.out, hself]; simp
            have hjl : j < s.size := by omega
            obtain ⟨P, hP⟩ : ∃ P : ByteArray, s.extract j (j + 1) = P := ⟨_, rfl⟩
            have HP : Hid (P.toList = [s[j]]) := by show _ = _; rw [← hP]; exact ext1_toL s j hjl
            have hsj : s[j] = s[i] := by congr 1
            have hq : (P.toList == Q.toList) = true := by rw [HP.out, HQ.out, hself, hsj, HSU.out]; simp
            clear hself hmid hsj
            go_wp2_with (go_at_call 55; (with_reducible refine (HUP.out _).mono ?_); rintro e w1 ⟨rfl, rfl⟩)
            go_round
            case rel => exact ⟨i + 1, by omega, by go_num⟩
            case measure => simp [intOf]; omega
          · have hq1 : (Q.toList == O.toList) = false := by
              rw [HQ.out, HO.out, beq_eq_false_iff_ne]; intro h; exact hself ((dc_inj HOK.out hu).1 (by simpa using h))
            have HX : Hid (Can n ⟨#[117]⟩ b false) := HNX.out (fun v hv hx hv2 => by
              have h1 := hx (by have := HSZ.out; have := HJ.out; omega)
              rw [show n - 1 - i = i by have := HJ.out; omega, HIX.out i hil, HSU.out] at h1
              have : u = v := (dc_inj hu hv).1 (by simpa using h1)
              exact hself (by rw [hv2, this]))
            clear hself hmid
            go_wp2_with (go_at_call 55; (with_reducible refine (HUP.out _).mono ?_); rintro e w1 ⟨rfl, rfl⟩)
            go_ret
            exact ⟨⟨_, rfl, HX.out⟩, Below.refl _ _⟩
        · have hji2 : ((2 : Int) * (i : Int) + 1 == (n : Int)) = false := by rw [beq_eq_false_iff_ne]; have := HJ.out; omega
          by_cases hjl : j < s.size
          · obtain ⟨P, hP⟩ : ∃ P : ByteArray, s.extract j (j + 1) = P := ⟨_, rfl⟩
            have HP : Hid (P.toList = [s[j]]) := by show _ = _; rw [← hP]; exact ext1_toL s j hjl
            by_cases he : s[j] = dc (ups u)
            · have hq : (P.toList == Q.toList) = true := by rw [HP.out, HQ.out, he]; simp
              clear he hmid
              go_wp2_with (go_at_call 55; (with_reducible refine (HUP.out _).mono ?_); rintro e w1 ⟨rfl, rfl⟩)
              go_round
              case rel => exact ⟨i + 1, by omega, by go_num⟩
              case measure => simp [intOf]; omega
            · have hq : (P.toList == Q.toList) = false := by rw [HP.out, HQ.out, beq_eq_false_iff_ne]; intro h; exact he (by simpa using h)
              have HX : Hid (Can n ⟨#[117]⟩ b false) := HNX.out (fun v hv hx hv2 => by
                have h1 := hx (by have := HSZ.out; have := HJ.out; omega)
                rw [show n - 1 - i = j by have := HJ.out; omega, HIX.out j hjl] at h1
                apply he
                have : s[j] = dc v := by simpa using h1
                rw [this, hv2])
              clear he hmid
              go_wp2_with (go_at_call 55; (with_reducible refine (HUP.out _).mono ?_); rintro e w1 ⟨rfl, rfl⟩)
              go_ret
              exact ⟨⟨_, rfl, HX.out⟩, Below.refl _ _⟩
          · clear hmid
            go_wp2_with (go_at_call 55; (with_reducible refine (HUP.out _).mono ?_); rintro e w1 ⟨rfl, rfl⟩)
            go_round
            case rel => exact ⟨i + 1, by omega, by go_num⟩
            case measure => simp [intOf]; omega
      · have e2 : upA O = ⟨#[]⟩ := by unfold upA; rw [e1, decide_eq_false hok]; rfl
        rw [e2, decide_eq_false hok] at hup
        have HUP := Lib.hid hup
        have HX : Hid (Can n ⟨#[117]⟩ b false) := HNX.out (fun v hv _ hv2 => by omega)
        clear hup e1 e2 hOd hok
        go_wp2_with (go_at_call 55; (with_reducible refine (HUP.out _).mono ?_); rintro e w1 ⟨rfl, rfl⟩)
        go_ret
        exact ⟨⟨_, rfl, HX.out⟩, Below.refl _ _⟩
    · go_wp2
      go_ret
      exact ⟨⟨_, rfl, HY.out⟩, Below.refl _ _⟩
theorem miCan_any (n : Nat) (b : List UInt8) (k : ByteArray) (w : World) (hn : n ≤ 9) (hb : b.length ≤ n) (hd : digB b = true) (hk : kB k = true) :
    Calls Try.prog 69 #[.int .i64 n, .string ⟨b.toArray⟩, .string k] w fun e w' => CanE n k b e ∧ Below w.heap.size w w' := by
  rcases Nat.lt_or_ge b.length n with h | h
  · rcases kB_of hk with e | e | e | e | e | e <;> subst e
    · exact canA_any n b w hn h hd
    · exact canM_any n b w hn h hd
    · exact canU_any n b w hn h hd
    · exact canR_any n b w hn h hd
    · exact canF_any n b w hn h hd
    · exact canD_any n b w hn h hd
  · obtain rfl : b.length = n := by omega
    exact canLeaf_any b k w hn hd hk
end Go.Proofs.Ytlkeemnnncnibaa
