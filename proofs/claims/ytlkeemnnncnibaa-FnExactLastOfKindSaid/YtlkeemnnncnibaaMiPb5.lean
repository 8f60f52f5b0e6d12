/-
  Readings: the law of LastOfKind.
-/
import Derived.Test.YtlkeemnnncnibaaMiPb4
namespace Go.Proofs.Ytlkeemnnncnibaa
open Go.RowKit

theorem LF_all1 (I : List UInt8 → Bool) (l : Nat) (b : List UInt8) (hb : b ≠ []) : LF I l b [] = LK I l b := by
  unfold LF
  rw [List.filter_eq_self]
  intro t ht
  obtain ⟨_, r, hr, _, _⟩ := LK_mem _ _ _ _ ht
  cases t with
  | nil => exact absurd (List.append_eq_nil_iff.1 hr.symm).1 hb
  | cons c t => rfl
theorem last_flat (f : Nat → List (List UInt8)) (n d : Nat) (hd : d < n) (h0 : ∀ e, d < e → e < n → f e = []) (h1 : f d ≠ []) : ((List.range n).flatMap f).getLast? = (f d).getLast? := by
  induction n with
  | zero => omega
  | succ n ih =>
    rw [List.range_succ, List.flatMap_append]
    by_cases h : d = n
    · subst h
      simp only [List.flatMap_cons, List.flatMap_nil, List.append_nil]
      rw [List.getLast?_append]
      cases hx : (f d).getLast? with
      | none => exact absurd (List.getLast?_eq_none_iff.1 hx) h1
      | some t => simp
    · have hn : f n = [] := h0 n (by omega) (by omega)
      simp only [List.flatMap_cons, List.flatMap_nil, List.append_nil, hn]
      exact ih (by omega) (fun e h2 h3 => h0 e h2 (by omega))
def lkA (d : Int) (k : ByteArray) : ByteArray := if ckB d k then ⟨((LK (KI d.toNat k) d.toNat []).getLast?.getD []).toArray⟩ else ⟨#[]⟩
theorem lkA_no {d : Int} {k : ByteArray} (h : ckB d k = false) : lkA d k = ⟨#[]⟩ := by unfold lkA; rw [h]; rfl
theorem lkA_yes {d : Int} {k : ByteArray} (h : ckB d k = true) : lkA d k = ⟨((LK (KI d.toNat k) d.toNat []).getLast?.getD []).toArray⟩ := by unfold lkA; rw [h]; rfl
theorem last_some {L : List (List UInt8)} (h : 0 < L.length) : L.getLast? = some (L.getLast?.getD []) := by
  cases hx : L.getLast? with
  | none => rw [List.getLast?_eq_none_iff] at hx; rw [hx] at h; simp at h
  | some t => rfl
set_option maxHeartbeats 2000000 in
theorem sLastOfKind_any (d : Int) (k : ByteArray) (w : World) :
    Calls Try.prog 25 #[.int .i64 d, .string k] w fun e w' => e = .returned (.tuple #[.string (lkA d k), .bool (ckB d k)]) ∧ Below w.heap.size w w' := by
  have HG := Lib.hid (fun W => miSize_any d W)
  have HK := Lib.hid (fun W => miKind_any k W)
  cases hb : zB d with
  | false =>
    have hn : ckB d k = false := by unfold ckB; rw [hb]; rfl
    have HA := Lib.hid (lkA_no hn)
    have HN := Lib.hid hn
    rw [hb] at HG
    clear hb hn
    go_enter Try.func25, Try.ntmps25
    go_wp2_with (go_at_call 44; (with_reducible refine (HG.out _).mono ?_); rintro e w1 ⟨rfl, rfl⟩)
    go_ret2
    exact ⟨ret_sb HA.out.symm HN.out.symm, Below.refl _ _⟩
  | true =>
    rw [hb] at HG
    cases hk : kB k with
    | false =>
      have hn : ckB d k = false := by unfold ckB; rw [hb, hk]; rfl
      have HA := Lib.hid (lkA_no hn)
      have HN := Lib.hid hn
      rw [hk] at HK
      clear hb hn hk
      go_enter Try.func25, Try.ntmps25
      go_wp2_with (first | (go_at_call 44; (with_reducible refine (HG.out _).mono ?_); rintro e w1 ⟨rfl, rfl⟩) | (go_at_call 38; (with_reducible refine (HK.out _).mono ?_); rintro e w1 ⟨rfl, b1⟩))
      go_ret2
      exact ⟨ret_sb HA.out.symm HN.out.symm, b1⟩
    | true =>
      have hn : ckB d k = true := by unfold ckB; rw [hb, hk]; rfl
      have HA := Lib.hid (lkA_yes hn)
      have HN := Lib.hid hn
      rw [hk] at HK
      obtain ⟨n, rfl, h1, h9⟩ := zB_nat hb
      obtain ⟨T, hT⟩ : ∃ T, T = (LK (KI n k) n []).getLast?.getD [] := ⟨_, rfl⟩
      have HT0 : Hid ((LK (KI n k) (n - 0) []).getLast? = some T) := by show _ = _; rw [Nat.sub_zero, hT]; exact last_some (cK_pos n k h1 h9 hk)
      have HX : Hid (lkA (n : Int) k = ⟨T.toArray⟩) := by show _ = _; rw [HA.out, hT]; rfl
      have HF : Hid (∀ (b : List UInt8) (l d : Nat) W, b.length + (l + 1) = n → digB b = true → d ≤ 9 → Calls Try.prog 47 #[.int .i64 n, .string (⟨b.toArray⟩ ++ ⟨[dc d].toArray⟩), .string k, .string ⟨#[]⟩] W fun e w' => e = .returned (.string (fst (KI n k) l (b ++ [dc d]) [])) ∧ Below W.heap.size W w') := by
        intro b l d W hbl hd hd9
        have := miFirst_any n k [] h1 h9 hk (.inl rfl) l (b ++ [dc d]) W (by simp; omega) (digB_dc hd (by omega))
        rw [str_two]; exact this
      have HNB : Hid (ckB (n : Int) k = true) := hn
      clear hb hn hk hT HA
      go_enter Try.func25, Try.ntmps25
      go_wp2_with (first | (go_at_call 44; (with_reducible refine (HG.out _).mono ?_); rintro e w1 ⟨rfl, rfl⟩) | (go_at_call 38; (with_reducible refine (HK.out _).mono ?_); rintro e w1 ⟨rfl, b1⟩))
      go_loopw [6] (fun ov wr => ∃ (b : List UInt8) (B : ByteArray), ov = .string B ∧ B.size ≤ n ∧ Hid (B = ⟨b.toArray⟩ ∧ digB b = true ∧ (LK (KI n k) (n - b.length) b).getLast? = some T) ∧ Below w.heap.size w wr) (fun ov _ => n - (match ov with | .string B => B.size | _ => 0))
      case atStart => exact ⟨[], ⟨#[]⟩, rfl, Nat.zero_le _, ⟨rfl, rfl, HT0.out⟩, b1⟩
      case round =>
        obtain ⟨b, B, rfl, hBn, HB, hbl⟩ := hrel
        have hBz : B.size = b.length := by rw [HB.out.1, sz_of]
        by_cases hlt : B.size < n
        · obtain ⟨l, hl⟩ : ∃ l, b.length + (l + 1) = n := ⟨n - b.length - 1, by omega⟩
          obtain ⟨f, hf⟩ : ∃ f : Nat → List (List UInt8), f = (fun d => LK (KI n k) l (b ++ [dc d])) := ⟨_, rfl⟩
          have hLK : LK (KI n k) (n - b.length) b = (List.range 10).flatMap f := by rw [show n - b.length = l + 1 by omega, hf]; rfl
          have HL := Lib.hid hLK
          have HFD : Hid (∀ (d : Nat) W, d ≤ 9 → Calls Try.prog 47 #[.int .i64 n, .string (B ++ ⟨[dc d].toArray⟩), .string k, .string ⟨#[]⟩] W fun e w' => e = .returned (.string ⟨(hdl (f d)).toArray⟩) ∧ Below W.heap.size W w') := by
            intro d W hd9
            have := HF.out b l d W hl HB.out.2.1 hd9
            rw [HB.out.1, hf]
            unfold fst at this
            rw [LF_all1 _ _ _ (by simp)] at this
            exact this
          have HFE : Hid (∀ d, ((⟨(hdl (f d)).toArray⟩ : ByteArray).toList == []) = decide (f d = [])) := by
            intro d
            have := fst_empty (I := KI n k) (l := l) (b := b ++ [dc d]) (beh := []) (by simp)
            unfold fst at this
            rw [LF_all1 _ _ _ (by simp)] at this
            rw [hf]; exact this
          have HBD : Hid (∀ d, d ≤ 9 → B ++ (⟨[dc d].toArray⟩ : ByteArray) = ⟨(b ++ [dc d]).toArray⟩ ∧ digB (b ++ [dc d]) = true ∧ LK (KI n k) (n - (b ++ [dc d]).length) (b ++ [dc d]) = f d) := by
            intro d hd9
            refine ⟨by rw [HB.out.1, str_two], digB_dc HB.out.2.1 (by omega), ?_⟩
            rw [hf, List.length_append, List.length_singleton, show n - (b.length + 1) = l by omega]
          have HTT : Hid ((LK (KI n k) (n - b.length) b).getLast? = some T) := HB.out.2.2
          clear hl hf hLK hBz
          obtain ⟨wo, rfl⟩ : ∃ wo : World, wo = wr := ⟨_, rfl⟩
          go_wp2
          go_loopw [6, 7] (fun ov dv wr => ∃ m : Nat, m ≤ 10 ∧ ov = .string B ∧ dv = .int .i64 (9 - (m : Int)) ∧ Hid (∀ e, 9 < e + m → e < 10 → f e = []) ∧ Below w.heap.size w wr) (fun _ dv _ => (intOf dv + 1).toNat)
          case atStart => exact ⟨0, Nat.zero_le _, rfl, by simp, fun e h2 h3 => by omega, hbl⟩
          case round =>
            obtain ⟨m, hm, rfl, rfl, HZ, hbl2⟩ := hrel
            by_cases hm10 : m < 10
            · obtain ⟨d, hd⟩ : ∃ d, d + m = 9 := ⟨9 - m, by omega⟩
              have hdi : (9 : Int) - (m : Int) = (d : Int) := by omega
              have hd9 : d ≤ 9 := by omega
              have HD := Lib.hid hd
              have HNU := Lib.hid (fun W => num_d d (d : Int) W hd9 rfl)
              have HF1 := Lib.hid (fun W => HFD.out d W hd9)
              have hFE := HFE.out d
              have HBD1 := Lib.hid (HBD.out d hd9)
              obtain ⟨D, hD⟩ : ∃ D : ByteArray, D = ⟨[dc d].toArray⟩ := ⟨_, rfl⟩
              have hDz : D.size = 1 := by rw [hD, sz_of]; rfl
              have hDs : B.size + D.size ≤ 20 := by omega
              have hBD : (B ++ D).size = B.size + 1 := by rw [ByteArray.size_append, hDz]
              obtain ⟨X, hX⟩ : ∃ X : ByteArray, X = ⟨(hdl (f d)).toArray⟩ := ⟨_, rfl⟩
              rw [← hD] at HNU HF1 HBD1
              rw [← hX] at HF1 hFE
              rw [hdi]
              have HM1 : Hid ((d : Int) - 1 = 9 - ((m + 1 : Nat) : Int)) := by show _ = _; omega
              by_cases hfd : f d = []
              · rw [decide_eq_true hfd] at hFE
                have HZ2 : Hid (∀ e, 9 < e + (m + 1) → e < 10 → f e = []) := by
                  intro e h2 h3
                  by_cases h4 : 9 < e + m
                  · exact HZ.out e h4 h3
                  · rw [show e = d by omega]; exact hfd
                clear hD hX hfd hd hdi
                go_wp2_with (first | (go_at_call 49; (with_reducible refine (HNU.out _).mono ?_); rintro e w2 ⟨rfl, b2⟩) | (go_at_call 47; (with_reducible refine (HF1.out _).mono ?_); rintro e w3 ⟨rfl, b3⟩))
                go_roundw
                case rel => exact ⟨m + 1, by omega, rfl, val_int HM1.out, HZ2, chain (chain hbl2 b2) b3⟩
                case measure => simp [intOf] <;> omega
              · rw [decide_eq_false hfd] at hFE
                have HQ : Hid (B ++ D = ⟨(b ++ [dc d]).toArray⟩ ∧ digB (b ++ [dc d]) = true ∧ (LK (KI n k) (n - (b ++ [dc d]).length) (b ++ [dc d])).getLast? = some T) := by
                  refine ⟨HBD1.out.1, HBD1.out.2.1, ?_⟩
                  rw [HBD1.out.2.2, ← HTT.out, HL.out]
                  exact (last_flat f 10 d (by omega) (fun e h2 h3 => HZ.out e (by omega) h3) hfd).symm
                clear hD hX hfd hd hdi
                go_wp2_with (first | (go_at_call 49; (with_reducible refine (HNU.out _).mono ?_); rintro e w2 ⟨rfl, b2⟩) | (go_at_call 47; (with_reducible refine (HF1.out _).mono ?_); rintro e w3 ⟨rfl, b3⟩))
                go_roundw
                case rel => exact ⟨b ++ [dc d], B ++ D, rfl, by omega, HQ, chain (chain hbl2 b2) b3⟩
                case measure => show n - (B ++ D).size < n - B.size; omega
            · exfalso
              have hnil : (List.range 10).flatMap f = [] := hd_none f 10 (fun e he => HZ.out e (by omega) he)
              have := HTT.out
              rw [HL.out, hnil] at this
              cases this
        · have HR : Hid (lkA (n : Int) k = B) := by
            show _ = _
            rw [HX.out]
            obtain ⟨e1, e2, e3⟩ := HB.out
            rw [show n - b.length = 0 by omega, LK] at e3
            split at e3
            · have : b = T := by simpa using e3
              rw [e1, this]
            · cases e3
          clear hBz
          go_wp2
          go_ret2
          exact ⟨ret_sb HR.out.symm HNB.out.symm, hbl⟩
set_option maxHeartbeats 1000000 in
theorem iLastOfKind_any (d : Int) (k : ByteArray) (w : World) :
    Calls Try.prog 26 #[.int .i64 d, .string k] w fun e w' => e = .returned (.tuple #[.string (lkA d k), .bool (ckB d k)]) ∧ Below w.heap.size w w' := by
  have HG := Lib.hid (fun W => isDial_any d W)
  cases hk : kB k with
  | false =>
    have hn : ckB d k = false := by unfold ckB; rw [hk]; simp
    have HA := Lib.hid (lkA_no hn)
    have HN := Lib.hid hn
    have HK := Lib.hid (fun W => kindOf_no k W hk)
    clear hn hk
    go_enter Try.func26, Try.ntmps26
    go_wp2_with (go_at_call 40; (with_reducible refine (HK.out _).mono ?_); rintro e w1 ⟨rfl, rfl⟩)
    go_ret2
    exact ⟨ret_sb HA.out.symm HN.out.symm, Below.refl _ _⟩
  | true =>
    cases hb : zB d with
    | false =>
      have hn : ckB d k = false := by unfold ckB; rw [hb]; rfl
      have HA := Lib.hid (lkA_no hn)
      have HN := Lib.hid hn
      have HK := Lib.hid (fun W => kindOf_yes k 9 W (by omega) hk)
      rw [hb] at HG
      clear hb hn hk
      go_enter Try.func26, Try.ntmps26
      go_wp2_with (first | (go_at_call 40; (with_reducible refine (HK.out _).mono ?_); rintro e w1 ⟨⟨g, pre, cb, rfl, eg, hg⟩, b1⟩) | (go_at_call 46; (with_reducible refine (HG.out _).mono ?_); rintro e w2 ⟨rfl, rfl⟩))
      go_ret2
      exact ⟨ret_sb HA.out.symm HN.out.symm, b1⟩
    | true =>
      have hn : ckB d k = true := by unfold ckB; rw [hb, hk]; rfl
      have HA := Lib.hid (lkA_yes hn)
      have HN := Lib.hid hn
      obtain ⟨n, rfl, h1, h9⟩ := zB_nat hb
      have HK := Lib.hid (fun W => kindOf_yes k n W h9 hk)
      rw [hb] at HG
      have hpos := cK_pos n k h1 h9 hk
      have hcb := cK_bd (KI n k) n [] h9
      have HR : Hid (∀ g pre cb W, Ent g → Cnts g pre cb n (KI n k) W → Calls Try.prog 48 #[.func (.func g) pre cb, .int .i64 n, .int .i64 ((cK (KI n k) n [] : Nat) - 1 : Int)] W fun e w' => e = .returned (.tuple #[.string (lkA (n : Int) k), .bool true]) ∧ Below W.heap.size W w') := by
        intro g pre cb W eg hg
        have := rdRank_any g pre cb (KI n k) n (cK (KI n k) n [] - 1) _ ((cK (KI n k) n [] : Nat) - 1 : Int) W eg hg h9 (by omega) (by
          have := last_some (L := LK (KI n k) n []) hpos
          rw [List.getLast?_eq_getElem?] at this
          exact this)
        rw [HA.out, List.getLast?_eq_getElem?]; exact this
      have HCC : Hid (∀ g pre cb W W', Cnts g pre cb n (KI n k) W → Below W.heap.size W W' → Calls Try.prog g (pre ++ (#[.string ⟨#[]⟩, .int .i64 n] ++ cb)) W' fun e w' => e = .returned (.int .i64 ((cK (KI n k) n [] : Nat) : Int)) ∧ Below W'.heap.size W' w' ∧ Cnts g pre cb n (KI n k) w') := by
        intro g pre cb W W' hg hW
        have := hg [] W' rfl (Nat.zero_le _) hW
        rw [List.length_nil, Nat.sub_zero] at this
        refine this.mono ?_
        rintro e w' ⟨h1, h2⟩
        exact ⟨h1, h2, hg.below (chain hW h2)⟩
      obtain ⟨C, hC⟩ : ∃ C, C = cK (KI n k) n [] := ⟨_, rfl⟩
      rw [← hC] at HCC HR hpos hcb
      clear hb hn hk hC HA
      go_enter Try.func26, Try.ntmps26
      go_wp2_with (go_at_call 40; (with_reducible refine (HK.out _).mono ?_); rintro e w1 ⟨⟨g, pre, cb, rfl, eg, hg⟩, b1⟩; have e1 : ∀ args w, (callFunc g args).run Try.prog w = .ok (.enter g args) w := eg; have EG := Lib.hid eg; have HGG := Lib.hid hg; clear eg hg)
      go_wp2_with (first | (go_at_call 46; (with_reducible refine (HG.out _).mono ?_); rintro e w2 ⟨rfl, rfl⟩) | (go_at_fn g; refine (HCC.out _ _ _ _ _ HGG.out (Below.refl _ _)).mono ?_; rintro e w3 ⟨rfl, b3, hg3⟩; have HG3 := Lib.hid hg3; clear hg3) | (go_at_call 48; (with_reducible refine (HR.out _ _ _ _ EG.out HG3.out).mono ?_); rintro e w4 ⟨rfl, b4⟩))
      go_ret2
      exact ⟨ret_sb rfl HN.out.symm, chain (chain b1 b3) b4⟩
set_option maxHeartbeats 1000000 in
theorem FnExactLastOfKind_law (p0 : Int) (z1 : ByteArray) (_hp0 : (Lit.int .i64 p0).wf = true) (hz1 : z1.size ≤ maxLen) (w : World) :
    Calls Try.prog 9 #[.int .i64 p0, .string z1] w fun e w' => e = .returned (.bool true) ∧ Below w.heap.size w w' := by
  have hz1' := hz1
  unfold maxLen at hz1'
  have hs1 : ∀ W, Calls Try.prog 25 #[.int .i64 p0, .string z1] W fun e w' => e = .returned (.tuple #[.string (lkA p0 z1), .bool (ckB p0 z1)]) ∧ Below W.heap.size W w' := fun W => sLastOfKind_any p0 z1 W
  have hi1 : ∀ W, Calls Try.prog 26 #[.int .i64 p0, .string z1] W fun e w' => e = .returned (.tuple #[.string (lkA p0 z1), .bool (ckB p0 z1)]) ∧ Below W.heap.size W w' := fun W => iLastOfKind_any p0 z1 W
  obtain ⟨A0, hA0⟩ : ∃ A0 : ByteArray, A0 = lkA p0 z1 := ⟨_, rfl⟩
  obtain ⟨A1, hA1⟩ : ∃ A1 : Bool, A1 = ckB p0 z1 := ⟨_, rfl⟩
  rw [← hA0, ← hA1] at hs1 hi1
  have HS := Lib.hid hs1
  have HI := Lib.hid hi1
  clear hs1 hi1 hA0 hA1
  by_cases hb1 : (z1.size : Int) ≤ 1048576
  case neg =>
    go_enter Try.func9, Try.ntmps9
    go_wp2
    go_ret
    exact ⟨rfl, Below.refl _ _⟩
  case pos =>
    go_enter Try.func9, Try.ntmps9
    go_wp2_with (first | (go_at_call 25; (with_reducible refine (HS.out _).mono ?_); rintro e w1 ⟨rfl, b1⟩) | (go_at_call 26; (with_reducible refine (HI.out _).mono ?_); rintro e w2 ⟨rfl, b2⟩))
    go_ret
    exact ⟨rfl, chain b1 b2⟩
end Go.Proofs.Ytlkeemnnncnibaa
