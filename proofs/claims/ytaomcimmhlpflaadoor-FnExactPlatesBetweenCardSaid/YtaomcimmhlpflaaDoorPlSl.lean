/-
  Contracts of the law's own helpers over slices of texts: compared, marked, held.
-/
import Derived.Test.YtaomcimmhlpflaaDoorPlStrs
namespace Go.Proofs.YtaomcimmhlpflaaDoor
open Go.RowKit

theorem Strs.drewN {B : Nat} {ts : List (List UInt8)} {v : Value} {w : World} (h : Strs B ts v w) (n : Nat) : Strs B ts v (w.drewN n) := h
set_option maxHeartbeats 800000 in
theorem eqStrs_yes (B C : Nat) (ts : List (List UInt8)) (v u : Value) (w : World) (hn : ts.length ≤ 5000000) (h1 : Strs B ts v w) (h2 : Strs C ts u w) :
    Calls Tryd.prog 43 #[v, u] w fun e w' => e = .returned (.bool true) ∧ ∃ n, w' = w.drewN n := by
  obtain ⟨n, hnn⟩ : ∃ n, n = ts.length := ⟨_, rfl⟩
  rcases h1.form with ⟨rfl, h0⟩ | ⟨g, cap, rfl, _, _, hc, _⟩
  · rcases h2.form with ⟨rfl, _⟩ | ⟨g2, cap2, rfl, _, _, _, _⟩
    all_goals
      try rw [h0]
      clear h1 h2 hn hnn
      go_enter Tryd.func43, Tryd.ntmps43
      go_wp2
      go_loopw [5] (fun i wr => i = .int .i64 0 ∧ ∃ q, wr = w.drewN q) (fun _ _ => 0)
      case atStart => exact ⟨rfl, 0, rfl⟩
      case round =>
        obtain ⟨rfl, q, rfl⟩ := hrel
        go_wp2
        go_ret
        exact ⟨rfl, q, rfl⟩
  · rcases h2.form with ⟨rfl, h0⟩ | ⟨g2, cap2, rfl, _, _, hc2, _⟩
    · rw [h0]
      clear h1 h2 hn hnn hc
      go_enter Tryd.func43, Tryd.ntmps43
      go_wp2
      go_loopw [5] (fun i wr => i = .int .i64 0 ∧ ∃ q, wr = w.drewN q) (fun _ _ => 0)
      case atStart => exact ⟨rfl, 0, rfl⟩
      case round =>
        obtain ⟨rfl, q, rfl⟩ := hrel
        go_wp2
        go_ret
        exact ⟨rfl, q, rfl⟩
    · rw [← hnn]
      rw [← hnn] at hn hc hc2
      clear h1 h2 hnn
      go_enter Tryd.func43, Tryd.ntmps43
      go_wp2
      go_loopw [5] (fun i wr => ∃ k q : Nat, k ≤ n ∧ i = .int .i64 k ∧ wr = w.drewN q) (fun i _ => n - (intOf i).toNat)
      case atStart => exact ⟨0, 0, Nat.zero_le _, rfl, rfl⟩
      case round =>
        obtain ⟨k, q, hk, rfl, rfl⟩ := hrel
        by_cases hlt : k < n
        · have d1 := hc k hlt
          have d2 := hc2 k hlt
          unfold strV at d1 d2
          obtain ⟨b, hb⟩ : ∃ b : ByteArray, b = ⟨(ts.getD k []).toArray⟩ := ⟨_, rfl⟩
          rw [← hb] at d1 d2
          have hk0 : (0 : Int) ≤ (k : Int) := by omega
          have hk1 : (k : Int) < (n : Int) := by omega
          clear hc hc2 hb
          go_wp2
          go_quiet (fail)
          go_wp2
          go_roundw
          case rel => exact ⟨k + 1, q + nq, by omega, by go_num, rfl⟩
          case measure => simp [intOf]; omega
        · go_wp2
          go_ret
          exact ⟨rfl, q, rfl⟩
/-- A digit's byte. -/
def dc8 (u : Nat) : UInt8 := UInt8.ofNat (48 + u)
/-- The decimal text of a mark. -/
def mkF : Nat → Nat → List UInt8 → List UInt8
  | 0, _, acc => acc
  | f + 1, k, acc => if k = 0 then acc else mkF f (k / 10) (dc8 (k % 10) :: acc)
theorem mkF_zero (f : Nat) (acc : List UInt8) : mkF f 0 acc = acc := by cases f <;> simp [mkF]
def mkt (k : Nat) : List UInt8 := 109 :: mkF k k []
theorem mkF_len (f : Nat) : ∀ k acc, (mkF f k acc).length ≤ f + acc.length := by
  induction f with
  | zero => intro k acc; simp [mkF]
  | succ f ih =>
    intro k acc
    simp only [mkF]
    split
    · omega
    · have := ih (k / 10) (dc8 (k % 10) :: acc)
      simp only [List.length_cons] at this
      omega
theorem mstr (c : UInt8) (l : List UInt8) : (⟨[c].toArray⟩ : ByteArray) ++ ⟨l.toArray⟩ = ⟨(c :: l).toArray⟩ := by
  apply ByteArray.ext
  simp [ByteArray.data_append]
theorem ret_strl {a b : ByteArray} (h : a = b) : Ending.returned (.string a) = .returned (.string b) := by rw [h]
set_option maxRecDepth 100000 in
set_option maxHeartbeats 2000000 in
theorem markText_any (k0 : Nat) (w : World) (h1 : 1 ≤ k0) (h2 : k0 ≤ 5000000) :
    Calls Tryd.prog 68 #[.int .i64 k0] w fun e w' => e = .returned (.string ⟨(mkt k0).toArray⟩) ∧ Below w.heap.size w w' := by
  have hk1 : ¬ (k0 : Int) ≤ 0 := by omega
  go_enter Tryd.func68, Tryd.ntmps68
  go_wp2
  go_loopw [0, 3] (fun kv o wr => ∃ (f k : Nat) (acc : List UInt8), k ≤ f ∧ k ≤ 5000000 ∧ kv = .int .i64 k ∧ o = .string ⟨acc.toArray⟩ ∧ acc.length + f ≤ 5000000 ∧ Hid (mkF k0 k0 [] = mkF f k acc) ∧ Below w.heap.size w wr) (fun kv _ _ => (intOf kv).toNat)
  case atStart => exact ⟨k0, k0, [], Nat.le_refl _, h2, rfl, rfl, by simpa using h2, rfl, Below.refl _ _⟩
  case round =>
    obtain ⟨f, k, acc, hkf, hkm, rfl, rfl, hal, HE, hbl⟩ := hrel
    have hbs := hbl.size
    by_cases hk : k = 0
    · have HZ : Hid (mkF k0 k0 [] = acc) := by show _ = _; rw [HE.out, hk, mkF_zero]
      have hkz : ¬ (0 : Int) < (k : Int) := by omega
      have hno : ¬ 9223372036854775807 < 1 + acc.length := by omega
      go_wp2
      go_ret
      exact ⟨ret_strl (by unfold mkt; rw [HZ.out]; exact mstr 109 acc), hbl⟩
    · obtain ⟨q, hq⟩ : ∃ q, q = k / 10 := ⟨_, rfl⟩
      obtain ⟨d, hd⟩ : ∃ d, d = k % 10 := ⟨_, rfl⟩
      have hd9 : d ≤ 9 := by omega
      have hqi : (k : Int) / 10 = (q : Int) := by omega
      have hdi : (k : Int) % 10 = (d : Int) := by omega
      have hkz : (0 : Int) < (k : Int) := by omega
      have hqk : q < k := by omega
      obtain ⟨f', hf'⟩ : ∃ f', f = f' + 1 := ⟨f - 1, by omega⟩
      have HE2 : Hid (mkF k0 k0 [] = mkF f' q (dc8 d :: acc)) := by
        show _ = _
        rw [HE.out, hf', mkF, if_neg hk, ← hq, ← hd]
      have hff : q ≤ f' ∧ acc.length + 1 + f' ≤ 5000000 := by omega
      have hno : ¬ 9223372036854775807 < 1 + acc.length := by omega
      have hcv : (convert 49 9 (.slice (some ⟨wr.heap.size, 0, none⟩) 1 1)).run Tryd.prog (wr.alloc (.cells #[.int .u8 (48 + (d : Int))] 5)) = .ok (.string ⟨[dc8 d].toArray⟩) (wr.alloc (.cells #[.int .u8 (48 + (d : Int))] 5)) :=
        run_convert_bytes_back (P := Tryd.prog) (wr.alloc (.cells #[.int .u8 (48 + (d : Int))] 5)) 49 9 5 ⟨wr.heap.size, 0, none⟩ 1 [dc8 d] Tryd.underlying49 Tryd.underlying5 Tryd.underlying9 (by
          intro j hj
          match j, hj with
          | 0, _ => simp [Addr.add, dc8]; omega)
      obtain ⟨hff1, hff2⟩ := hff
      clear hq hd hk hkf hf' HE
      go_wp2
      go_roundw
      case rel => exact ⟨f', q, _, hff1, by omega, rfl, by rw [mstr], by simpa using hff2, HE2, hbl.alloc hbs _⟩
      case measure => simp [intOf]; omega
def smarks (k n : Nat) : List (List UInt8) := (List.range n).map (fun j => mkt (k + j))
theorem smarks_len (k n : Nat) : (smarks k n).length = n := by simp [smarks]
theorem smarks_get (k n j : Nat) (h : j < n) : (smarks k n).getD j [] = mkt (k + j) := by simp [smarks, List.getD, h]
def smarked (k : Nat) (ts : List (List UInt8)) (i : Nat) : List (List UInt8) := smarks k i ++ ts.drop i
theorem smarked_zero (k : Nat) (ts : List (List UInt8)) : smarked k ts 0 = ts := by simp [smarked, smarks]
theorem smarked_all (k : Nat) (ts : List (List UInt8)) : smarked k ts ts.length = smarks k ts.length := by simp [smarked]
theorem smarked_succ (k : Nat) (ts : List (List UInt8)) (i : Nat) (h : i < ts.length) : (smarked k ts i).set i (mkt (k + i)) = smarked k ts (i + 1) := by
  unfold smarked
  rw [List.set_append_right _ _ (by rw [smarks_len]; exact Nat.le_refl _), smarks_len, Nat.sub_self]
  rw [show (ts.drop i).set 0 (mkt (k + i)) = mkt (k + i) :: ts.drop (i + 1) from by rw [List.drop_eq_getElem_cons h]; rfl]
  simp [smarks, List.range_succ]
theorem smarked_len (k : Nat) (ts : List (List UInt8)) (i : Nat) (h : i ≤ ts.length) : (smarked k ts i).length = ts.length := by
  simp [smarked, smarks_len]; omega
theorem Strs.store {B : Nat} {ts : List (List UInt8)} {g n cap : Nat} {w : World} (hn : ts.length = n) (h : Strs B ts (.slice (some ⟨g, 0, none⟩) n cap) w) (j : Nat) (t : List UInt8) : Strs B (ts.set j t) (.slice (some ⟨g, 0, none⟩) n cap) (w.setCell ⟨g, j, none⟩ (strV t)) := by
  subst hn
  have := (World.ownsRow.stored h j (strV t)).1
  unfold Strs
  rw [List.length_set, List.map_set]; exact this
set_option maxRecDepth 100000 in
set_option maxHeartbeats 2000000 in
theorem smark_any (B : Nat) (ts : List (List UInt8)) (v : Value) (k0 : Nat) (w : World) (hn : ts.length ≤ 1048576) (hk0 : 1 ≤ k0 ∧ k0 ≤ 1000) (h1 : Strs B ts v w) (hBw : B ≤ w.heap.size) :
    Calls Tryd.prog 44 #[v, .int .i64 k0] w fun e w' => e = .returned (.int .i64 ((k0 : Int) + ts.length)) ∧ Strs B (smarks k0 ts.length) v w' ∧ Below B w w' := by
  obtain ⟨hk1, hk2⟩ := hk0
  have H1 := Lib.hid h1
  rcases h1.form with ⟨rfl, h0⟩ | ⟨g, cap, rfl, hBg, hg, hc, hf⟩
  · have hts : ts = [] := List.eq_nil_of_length_eq_zero h0
    subst hts
    clear h1
    go_enter Tryd.func44, Tryd.ntmps44
    go_wp2
    go_loop [1, 5] (fun kv i => i = .int .i64 0 ∧ kv = .int .i64 k0) (fun _ _ => 0)
    case atStart => exact ⟨rfl, rfl⟩
    case round =>
      obtain ⟨rfl, rfl⟩ := hrel
      go_wp2
      go_ret
      exact ⟨ret_int (by simp), H1.out, Below.refl _ _⟩
  · obtain ⟨n, hnn⟩ : ∃ n, n = ts.length := ⟨_, rfl⟩
    have HN := Lib.hid hnn
    rw [← hnn] at hn h1 H1 hc
    rw [← hnn]
    clear hc hf hnn
    go_enter Tryd.func44, Tryd.ntmps44
    go_wp2
    go_loopw [1, 5] (fun kv i wr => ∃ k : Nat, k ≤ n ∧ i = .int .i64 k ∧ kv = .int .i64 ((k0 : Int) + k) ∧ Hid (Strs B (smarked k0 ts k) (.slice (some ⟨g, 0, none⟩) n cap) wr) ∧ Below B w wr ∧ g < wr.heap.size ∧ w.heap.size ≤ wr.heap.size) (fun _ i _ => n - (intOf i).toNat)
    case atStart => exact ⟨0, Nat.zero_le _, rfl, by simp, by show Strs _ _ _ _; rw [smarked_zero]; exact H1.out, Below.refl _ _, hg, Nat.le_refl _⟩
    case round =>
      obtain ⟨k, hk, rfl, rfl, hI, hb, hgs, hws⟩ := hrel
      have hlen : (smarked k0 ts k).length = n := by rw [smarked_len _ _ _ (by rw [← HN.out]; exact hk), ← HN.out]
      by_cases hlt : k < n
      · have HLN := Lib.hid hlen
        obtain ⟨kk, hkk⟩ : ∃ kk : Nat, (k0 : Int) + (k : Int) = (kk : Int) := ⟨k0 + k, by omega⟩
        have hkk1 : 1 ≤ kk := by omega
        have hkk2 : kk ≤ 5000000 := by omega
        have HKK : Hid (kk = k0 + k) := by show _ = _; omega
        rw [hkk]
        have HE := Lib.hid (smarked_succ k0 ts k (by rw [← HN.out]; exact hlt))
        clear hlen
        go_wp2_with (go_at_call 68; go_must ((with_reducible refine (markText_any kk _ hkk1 hkk2).mono ?_); rintro e w1 ⟨rfl, b1⟩; have hI1 := Lib.hid (hI.out.below b1); have hff : w1.frozen? ⟨g, k, none⟩ = false := (by have h := hI1.out; unfold Strs at h; rw [HLN.out] at h; exact h.frozenAt k); have hcc : w1.cell? ⟨g, k, none⟩ = some (strV ((smarked k0 ts k).getD k [])) := (by have h := hI1.out; unfold Strs at h; rw [HLN.out] at h; rw [h.cellAt k (by omega)]; simp [List.getElem?_eq_getElem (show k < (smarked k0 ts k).length by rw [HLN.out]; exact hlt)]); have hz1 := b1.size))
        have HS := Lib.hid (Strs.store HLN.out hI1.out k (mkt kk))
        go_roundw
        case rel => exact ⟨k + 1, by omega, by go_num, val_int (by omega), by show Strs _ _ _ _; rw [← HE.out, ← HKK.out]; exact HS.out, (hb.trans (b1.mono (by omega))).setCell hBg _, by simp [World.setCell]; omega, by simp [World.setCell]; omega⟩
        case measure => simp [intOf]; omega
      · have HK : Hid (k = n) := by show _ = _; omega
        go_wp2
        go_ret
        exact ⟨ret_int (by rw [HK.out]), by
          have e : smarks k0 n = smarked k0 ts k := by rw [HK.out, HN.out, smarked_all]
          rw [e]; exact hI.out, hb⟩
set_option maxRecDepth 100000 in
set_option maxHeartbeats 2000000 in
theorem sheld_any (B : Nat) (n : Nat) (v : Value) (k0 : Nat) (w : World) (hn : n ≤ 1000) (hk0 : 1 ≤ k0 ∧ k0 ≤ 1000) (h1 : Strs B (smarks k0 n) v w) :
    Calls Tryd.prog 45 #[v, .int .i64 k0] w fun e w' => e = .returned (.int .i64 ((k0 : Int) + n)) ∧ Below w.heap.size w w' := by
  obtain ⟨hk1, hk2⟩ := hk0
  rcases h1.form with ⟨rfl, h0⟩ | ⟨g, cap, rfl, hBg, hg, hc, hf⟩
  · rw [smarks_len] at h0
    subst h0
    clear h1
    go_enter Tryd.func45, Tryd.ntmps45
    go_wp2
    go_loop [1, 5] (fun kv i => i = .int .i64 0 ∧ kv = .int .i64 k0) (fun _ _ => 0)
    case atStart => exact ⟨rfl, rfl⟩
    case round =>
      obtain ⟨rfl, rfl⟩ := hrel
      go_wp2
      go_ret
      exact ⟨ret_int (by simp), Below.refl _ _⟩
  · rw [smarks_len] at hc ⊢
    have HC : Hid (∀ i, i < n → w.cell? ⟨g, i, none⟩ = some (.string ⟨(mkt (k0 + i)).toArray⟩)) := fun i hi => by rw [hc i hi, smarks_get k0 n i hi]; rfl
    clear hc h1 hf
    have mixed : Tryd.prog.follows .mixedOrders = true := by kernel_rfl
    go_enter Tryd.func45, Tryd.ntmps45
    go_wp2
    go_loopw [1, 5] (fun kv i wr => ∃ k : Nat, k ≤ n ∧ i = .int .i64 k ∧ kv = .int .i64 ((k0 : Int) + k) ∧ Below w.heap.size w wr) (fun _ i _ => n - (intOf i).toNat)
    case atStart => exact ⟨0, Nat.zero_le _, rfl, by simp, Below.refl _ _⟩
    case round =>
      obtain ⟨k, hk, rfl, rfl, hb⟩ := hrel
      have hbs := hb.size
      by_cases hlt : k < n
      · obtain ⟨kk, hkk⟩ : ∃ kk : Nat, (k0 : Int) + (k : Int) = (kk : Int) := ⟨k0 + k, by omega⟩
        have hkk1 : 1 ≤ kk := by omega
        have hkk2 : kk ≤ 5000000 := by omega
        have HKK : Hid (kk = k0 + k) := by show _ = _; omega
        have hcc : wr.cell? ⟨g, k, none⟩ = some (.string ⟨(mkt kk).toArray⟩) := by
          rw [hb.cell (p := ⟨g, k, none⟩) hg, HC.out k hlt, HKK.out]
        rw [hkk]
        have hj0 : (0 : Int) ≤ (k : Int) := by omega
        have hj4 : (k : Int) < (n : Int) := by omega
        have HGW : Hid (g < wr.heap.size) := by show _ < _; omega
        go_wp2
        go_region_with (go_at_call 68; go_must ((with_reducible refine (markText_any kk _ hkk1 hkk2).mono ?_); rintro e w1 ⟨rfl, b1⟩; have b2 : Below wr.heap.size wr w1 := chain (w := wr) (by go_grown) b1; have hcc1 : w1.cell? ⟨g, k, none⟩ = some (.string ⟨(mkt kk).toArray⟩) := (b2.cell (p := ⟨g, k, none⟩) HGW.out).trans hcc))
        all_goals go_wp2
        all_goals
          go_roundw
          case rel => exact ⟨k + 1, by omega, by go_num, val_int (by omega), hb.trans (b2.mono hbs)⟩
          case measure => simp [intOf]; omega
      · have HK : Hid (k = n) := by show _ = _; omega
        go_wp2
        go_ret
        exact ⟨ret_int (by rw [HK.out]), hb⟩
end Go.Proofs.YtaomcimmhlpflaaDoor
