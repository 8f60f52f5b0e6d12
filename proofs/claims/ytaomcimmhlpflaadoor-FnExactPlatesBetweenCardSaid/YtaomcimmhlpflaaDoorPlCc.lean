/-
  How many plates begin with a text: the program.
-/
import Derived.Test.YtaomcimmhlpflaaDoorPlCb
namespace Go.Proofs.YtaomcimmhlpflaaDoor
open Go.RowKit Go.Maps

def bgB (P B : List UInt8) (ts : List (List UInt8)) (s : List UInt8) : Bool := schB P B ts && szsB s 0 8
def bgF (P B : List UInt8) (ts : List (List UInt8)) (s : List UInt8) : Nat := if bgB P B ts s = true then plF P B ts s else 0
theorem iIsS_b (P B : ByteArray) (ts : List (List UInt8)) (v : Value) (b : Bool) (w : World) (hf : Fit P B ts) (h : Rd ts v w) (hb : schB P.data.toList B.data.toList ts = b) :
    Calls Tryd.prog 38 #[.agg #[.string P, .string B, v]] w fun e w' => e = .returned (.bool b) ∧ Below w.heap.size w w' := by subst hb; exact iIsScheme_any P B ts v w hf h
/-- One step of a walk, whether it is lost or not. -/
theorem walk_step {P B : List UInt8} {ts L : List (List UInt8)} {n : Nat} (hn : P.length = n) (h8 : n ≤ 8) {va : Option Addr} {vc bm N : Nat} {ga : Option Addr} {gc g : Nat} {w1 : World} (hk : PWk P B n ts L va vc bm N ga gc g w1) {s : ByteArray} {k p : Nat} {u : ByteArray} {l : Bool} (hks : k < s.size)
    (hr : (l = true ∧ plF P B ts s.data.toList = 0) ∨ (l = false ∧ p = k ∧ Way P B L k s.data.toList u.data.toList)) :
    ∃ (p' : Nat) (u' : ByteArray) (l' : Bool), (∀ W : World, Below w1.heap.size w1 W → Calls Tryd.prog 55 #[.agg #[.slice va L.length vc, .map (some bm), .slice ga n gc, .slice (some ⟨g, 0, none⟩) (n + 1) (n + 1), .int .i64 (p : Int), .string u, .bool l], .int .u8 (s[k].toNat : Int)] W fun e w' => e = .returned (.agg #[.slice va L.length vc, .map (some bm), .slice ga n gc, .slice (some ⟨g, 0, none⟩) (n + 1) (n + 1), .int .i64 (p' : Int), .string u', .bool l']) ∧ Below W.heap.size W w') ∧
      ((l' = true ∧ plF P B ts s.data.toList = 0) ∨ (l' = false ∧ p' = k + 1 ∧ Way P B L (k + 1) s.data.toList u'.data.toList)) := by
  have hl : k < s.data.toList.length := by simpa using hks
  have he : s.data.toList[k] = s[k] := by simp; rfl
  have hrl : (rowsF P B 0).length = n := by rw [rowsF_len, hn]; omega
  rcases hr with ⟨rfl, h0⟩ | ⟨rfl, rfl, hw⟩
  · exact ⟨p, u, true, fun W _ => step_lost va L.length vc ga n gc bm (some ⟨g, 0, none⟩) (n + 1) (n + 1) p u s[k] W, .inl ⟨rfl, h0⟩⟩
  · by_cases hp : p = n
    · refine ⟨p, u, true, fun W _ => step_end va L.length vc ga n gc bm (some ⟨g, 0, none⟩) (n + 1) (n + 1) p u s[p] W hp, .inl ⟨rfl, ?_⟩⟩
      exact Way.no_end hl (by omega)
    · have hpn : p < P.length := by have := hw.kl; omega
      by_cases hc : s[p] ∈ (rowsF P B 0).getD p []
      · have hrow := hc
        rw [rowsF_getD hpn] at hrow
        have hus : u.size ≤ 1000 := by have h1 := hw.len; have h2 : u.data.toList.length = u.size := by simp
                                       omega
        obtain ⟨Z, hZ⟩ : ∃ Z : ByteArray, Z = if qSuf L (u.data.toList ++ [s[p]]) = true then ⟨(stt L (u.data.toList ++ [s[p]])).toArray⟩ else ⟨#[]⟩ := ⟨_, rfl⟩
        refine ⟨p + 1, Z, !(qSuf L (u.data.toList ++ [s[p]])), fun W hW => ?_, ?_⟩
        · have hk2 := hk.below hW
          exact step_go L (rowsF P B 0) (.slice va L.length vc) (.slice ga n gc) (some ⟨g, 0, none⟩) (n + 1) (n + 1) bm N p u s[p] W hk.l3 hus (by omega) (by omega) (sgRow_ascii hrow) hc hk2.rd hk2.set hk2.rows Z _ hZ rfl
        · rcases Bool.eq_false_or_eq_true (qSuf L (u.data.toList ++ [s[p]])) with hq | hq
          · right
            refine ⟨by rw [hq]; rfl, rfl, ?_⟩
            rw [hZ, if_pos hq]
            rw [← he] at hq hrow ⊢
            exact hw.next hl hpn hrow hq
          · left
            refine ⟨by rw [hq]; rfl, ?_⟩
            rw [← he] at hq
            exact hw.no_suf hk.same hl (by rw [hq]; decide)
      · refine ⟨p, u, true, fun W hW => step_no va L.length vc ga n gc bm (some ⟨g, 0, none⟩) (n + 1) (n + 1) p u s[p] W (rowsF P B 0) hrl.symm h8 (by omega) hc (hk.below hW).rows, .inl ⟨rfl, ?_⟩⟩
        rw [rowsF_getD hpn, ← he] at hc
        exact Way.no_row hl hc
/-- What a walk counts at its end. -/
theorem walk_done {P B : List UInt8} {ts L : List (List UInt8)} {n : Nat} (hn : P.length = n) (h8 : n ≤ 8) {va : Option Addr} {vc bm N : Nat} {ga : Option Addr} {gc g : Nat} {w1 : World} (hk : PWk P B n ts L va vc bm N ga gc g w1) {s : ByteArray} {p : Nat} {u : ByteArray} {l : Bool}
    (hr : (l = true ∧ plF P B ts s.data.toList = 0) ∨ (l = false ∧ p = s.size ∧ Way P B L s.size s.data.toList u.data.toList)) (W : World) (hW : Below w1.heap.size w1 W) :
    Calls Tryd.prog 56 #[.agg #[.slice va L.length vc, .map (some bm), .slice ga n gc, .slice (some ⟨g, 0, none⟩) (n + 1) (n + 1), .int .i64 (p : Int), .string u, .bool l]] W fun e w' => e = .returned (.int .i64 (plF P B ts s.data.toList : Nat)) ∧ Below W.heap.size W w' := by
  have hl : s.data.toList.length = s.size := by simp
  have hrl : (rowsF P B 0).length = n := by rw [rowsF_len, hn]; omega
  rcases hr with ⟨rfl, h0⟩ | ⟨rfl, rfl, hw⟩
  · rw [h0]
    exact completions_lost _ _ _ _ _ _ W
  · have hus : u.size ≤ maxLen := by
      have h1 := hw.len
      have h2 : u.data.toList.length = u.size := by simp
      have h3 := hw.kl
      unfold maxLen; omega
    have hd : Gq L (qSuf L) ((rowsF P B 0).drop s.size) u.data.toList = plF P B ts s.data.toList := by
      rw [← hl] at hw ⊢
      exact hw.done hk.same
    have hk2 := (hk.below hW).ways
    rw [← hrl] at hk2
    have hc := completions_any L (rowsF P B 0) (.slice va L.length vc) (.slice ga n gc) bm g (n + 1) s.size u W hus (by omega) (by have := hw.kl; omega) hw.beg hk2
    rw [hrl, hd] at hc
    exact hc
set_option maxRecDepth 100000 in
set_option maxHeartbeats 4000000 in
theorem iCountBeg_any (P B s : ByteArray) (ts : List (List UInt8)) (v : Value) (w : World) (hf : Fit P B ts) (hs : s.size ≤ 1048576) (h : Rd ts v w) (hmx : MaxIs w) :
    Calls Tryd.prog 29 #[.agg #[.string P, .string B, v], .string s] w fun e w' => e = .returned (.tuple #[.int .i64 (bgF P.data.toList B.data.toList ts s.data.toList : Nat), .bool (bgB P.data.toList B.data.toList ts s.data.toList)]) ∧ Below w.heap.size w w' := by
  have mixed : Tryd.prog.follows .mixedOrders = true := by kernel_rfl
  have late : Tryd.prog.follows .lateStores = true := by kernel_rfl
  have HI := Lib.hid (fun (b : Bool) (hb : schB P.data.toList B.data.toList ts = b) (W : World) (hW : Below w.heap.size w W) => iIsS_b P B ts v b W hf (h.below hW) hb)
  have HN := Lib.hid (fun (hb : schB P.data.toList B.data.toList ts = true) (W : World) (hW : Below w.heap.size w W) => newWalk_any P B ts v W hb (h.below hW) (hmx.below hW))
  obtain ⟨a, cap, rfl, _⟩ := h
  obtain ⟨m, hm⟩ : ∃ m, m = ts.length := ⟨_, rfl⟩
  rw [← hm] at HI HN ⊢
  clear hmx hf hm
  cases h1 : schB P.data.toList B.data.toList ts with
  | false =>
    have H1 := Lib.hid h1
    have HE : Hid (bgB P.data.toList B.data.toList ts s.data.toList = false) := by show _ = _; unfold bgB; rw [h1]; rfl
    clear h1
    go_enter Tryd.func29, Tryd.ntmps29
    go_wp2_with (go_at_call 38; (with_reducible refine (HI.out false H1.out _ (by go_grown)).mono ?_); rintro e w1 ⟨rfl, b1⟩)
    go_ret2
    exact ⟨by unfold bgF; rw [HE.out]; rfl, chain (w := w) (by go_grown) b1⟩
  | true =>
    have H1 := Lib.hid h1
    cases h2 : szsB s.data.toList 0 8 with
    | false =>
      have H2 := Lib.hid h2
      have HE : Hid (bgB P.data.toList B.data.toList ts s.data.toList = false) := by show _ = _; unfold bgB; rw [h2]; simp
      clear h1 h2
      go_enter Tryd.func29, Tryd.ntmps29
      go_wp2_with (first | (go_at_call 38; (with_reducible refine (HI.out true H1.out _ (by go_grown)).mono ?_); rintro e w1 ⟨rfl, b1⟩; have B1 : Below w.heap.size w w1 := chain (w := w) (by go_grown) b1) | (go_at_call 39; (with_reducible refine (arePl_b s 0 8 false _ hs H2.out).mono ?_); rintro e w2 ⟨rfl, b2⟩))
      go_ret2
      exact ⟨by unfold bgF; rw [HE.out]; rfl, chain B1 b2⟩
    | true =>
      have H2 := Lib.hid h2
      have HE : Hid (bgB P.data.toList B.data.toList ts s.data.toList = true) := by show _ = _; unfold bgB; rw [h1, h2]; rfl
      have h8 : P.size ≤ 8 := (sch_facts h1).1
      have H7 := Lib.hid (sch_facts h1).2.2.2.2.2.2
      have hs8 : s.size ≤ 8 := by have h3 := szsL h2; have h4 : s.data.toList.length = s.size := by simp
                                  omega
      obtain ⟨n, hn⟩ : ∃ n, n = P.size := ⟨_, rfl⟩
      have HPN : Hid (P.data.toList.length = n) := by show _ = _; rw [hn]; simp
      rw [← hn] at HN h8
      clear h1 h2 hn
      go_enter Tryd.func29, Tryd.ntmps29
      go_wp2_with (first
        | (go_at_call 38; (with_reducible refine (HI.out true H1.out _ (by go_grown)).mono ?_); rintro e w1 ⟨rfl, b1⟩; obtain ⟨c0, c1, c2, hz⟩ := box_kept b1; have B1 : Below w.heap.size w w1 := chain (w := w) (by go_grown) b1)
        | (go_at_call 39; (with_reducible refine (arePl_b s 0 8 true _ hs H2.out).mono ?_); rintro e w2 ⟨rfl, b2⟩; obtain ⟨d0, d1, d2, dz⟩ := keep3 hz c0 c1 c2 b2; have B2 := chain B1 b2)
        | (go_at_call 50; (with_reducible refine (HN.out H1.out _ B2).mono ?_); rintro e w3 ⟨⟨L, va, vc, bm, N, ga, gc, g, rfl, hk⟩, b3⟩; have B3 := chain B2 b3; have HK := Lib.hid hk; clear hk))
      obtain ⟨b0, hb0⟩ : ∃ b0, b0 = w3.heap.size := ⟨_, rfl⟩
      obtain ⟨W, hWd⟩ : ∃ W, W = w3.alloc (.cells #[.slice va L.length vc, .map (some bm), .slice ga n gc, .slice (some ⟨g, 0, none⟩) (n + 1) (n + 1), .int .i64 0, .string ⟨#[]⟩, .bool false] 60) := ⟨_, rfl⟩
      have hq : W.heap[w3.heap.size]? = some (.cells #[.slice va L.length vc, .map (some bm), .slice ga n gc, .slice (some ⟨g, 0, none⟩) (n + 1) (n + 1), .int .i64 ((0 : Nat) : Int), .string ⟨#[]⟩, .bool false] 60 (0, 0)) := by rw [hWd]; exact heap_alloc_last w3 _
      have hbw : Below w3.heap.size w3 W := by rw [hWd]; exact (Below.refl _ _).alloc (Nat.le_refl _) _
      rw [← hWd]
      rw [← hb0] at hq ⊢
      have HQ := Lib.hid hq
      have HBW := Lib.hid hbw
      have HB0 := Lib.hid hb0
      clear hWd hq hbw hb0 b1 b2 b3 c0 c1 c2 d0 d1 d2 dz hz
      go_loopw [20] (fun iv wr => ∃ (k p : Nat) (u : ByteArray) (l : Bool), k ≤ s.size ∧ iv = .int .i64 k ∧ Hid (wr.heap[b0]? = some (.cells #[.slice va L.length vc, .map (some bm), .slice ga n gc, .slice (some ⟨g, 0, none⟩) (n + 1) (n + 1), .int .i64 (p : Int), .string u, .bool l] 60 (0, 0))) ∧ Hid (Below w3.heap.size w3 wr) ∧ Hid ((l = true ∧ plF P.data.toList B.data.toList ts s.data.toList = 0) ∨ (l = false ∧ p = k ∧ Way P.data.toList B.data.toList L k s.data.toList u.data.toList))) (fun iv _ => s.size - (intOf iv).toNat)
      case atStart => exact ⟨0, 0, ⟨#[]⟩, false, Nat.zero_le _, rfl, HQ, HBW, .inr ⟨rfl, rfl, Way.start _ (fun x hx => H7.out x (HK.out.mem x hx))⟩⟩
      case round =>
        obtain ⟨k, p, u, l, hk, rfl, HH, HB, HR⟩ := hrel
        by_cases hlt : k < s.size
        · have hltI : (k : Int) < (s.size : Int) := by omega
          have hk0 : (0 : Int) ≤ (k : Int) := by omega
          obtain ⟨p', u', l', hst, hr'⟩ := walk_step HPN.out h8 HK.out hlt HR.out
          have HST := Lib.hid hst
          have HR' := Lib.hid hr'
          clear hst hr'
          obtain ⟨m0, m1, m2, m3, m4, m5, m6, mf, ms⟩ := blk7 HH.out
          go_wp2
          go_region_with (go_at_call 55; (with_reducible refine (HST.out _ (HB.out.trans ((show Below wr.heap.size wr _ by go_grown).mono HB.out.size))).mono ?_); rintro e w4 ⟨rfl, c4⟩; have B4 : Below wr.heap.size wr w4 := chain (w := wr) (by go_grown) c4; have hh4 := heapk HH.out B4; obtain ⟨n0, n1, n2, n3, n4, n5, n6, nf, ns⟩ := blk7 hh4; have HH4 := Lib.hid hh4; clear hh4)
          all_goals go_wp2
          all_goals
            have hBz : Below w3.heap.size w3 w4 := HB.out.trans (B4.mono HB.out.size)
            have hbb : w3.heap.size ≤ b0 := by have := HB0.out; omega
            go_roundw
            case rel => exact ⟨k + 1, p', u', l', by omega, by go_num, heap7 HH4.out, ((((((hBz.setCell hbb _).setCell hbb _).setCell hbb _).setCell hbb _).setCell hbb _).setCell hbb _).setCell hbb _, HR'⟩
            case measure => simp [intOf]; omega
        · have hltI : ¬ (k : Int) < (s.size : Int) := by omega
          have hke : k = s.size := by omega
          subst hke
          have HD := Lib.hid (fun (W' : World) (hW' : Below w3.heap.size w3 W') => walk_done HPN.out h8 HK.out HR.out W' hW')
          obtain ⟨m0, m1, m2, m3, m4, m5, m6, mf, ms⟩ := blk7 HH.out
          go_wp2_with (go_at_call 56; (with_reducible refine (HD.out _ HB.out).mono ?_); rintro e w4 ⟨rfl, c4⟩)
          go_ret2
          exact ⟨by unfold bgF; rw [HE.out]; rfl, (B3.trans (HB.out.mono B3.size)).trans (c4.mono (by have h1 := HB.out.size; have h2 := B3.size; omega))⟩
end Go.Proofs.YtaomcimmhlpflaaDoor
