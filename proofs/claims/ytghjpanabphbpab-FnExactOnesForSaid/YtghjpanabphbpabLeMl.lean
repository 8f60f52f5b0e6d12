/-
  Least numbers: the laws of LeastMultiple and OnesFor.
-/
import Derived.Test.YtghjpanabphbpabLeBn
namespace Go.Proofs.Ytghjpanabphbpab
open Go.RowKit
set_option maxRecDepth 100000

/-- The first k + 1 signs rise. -/
def riseB : List UInt8 → Bool
  | [] => true
  | [_] => true
  | a :: b :: l => decide ((a.toNat : Int) < (b.toNat : Int)) && riseB (b :: l)
/-- There is a text of digits that rise. -/
def rtB (s : ByteArray) : Bool := decide (1 ≤ (s.size : Int) ∧ (s.size : Int) ≤ 10) && digB s.data.toList && riseB s.data.toList
theorem riseB_snoc (l : List UInt8) (a b : UInt8) : riseB (l ++ [a, b]) = (riseB (l ++ [a]) && decide ((a.toNat : Int) < (b.toNat : Int))) := by
  induction l with
  | nil => simp [riseB]
  | cons x l ih =>
    cases l with
    | nil => simp [riseB]
    | cons y l =>
      simp only [List.cons_append, riseB] at ih ⊢
      rw [ih, Bool.and_assoc]
theorem riseB_take {s : ByteArray} {k : Nat} (h : k + 1 < s.size) : riseB (s.data.toList.take (k + 2)) = (riseB (s.data.toList.take (k + 1)) && decide ((s[k].toNat : Int) < (s[k + 1].toNat : Int))) := by
  rw [take_snoc s (k + 1) h, take_snoc s k (by omega), List.append_assoc]
  exact riseB_snoc _ _ _
theorem riseB_pre (l m : List UInt8) (h : riseB (l ++ m) = true) : riseB l = true := by
  induction l with
  | nil => rfl
  | cons x l ih =>
    cases l with
    | nil => rfl
    | cons y l =>
      simp only [List.cons_append, riseB, Bool.and_eq_true] at h ⊢
      exact ⟨h.1, ih h.2⟩
theorem rise_no {s : ByteArray} {k : Nat} (h : k + 1 < s.size) (hn : ¬ (s[k].toNat : Int) < (s[k + 1].toNat : Int)) : riseB s.data.toList = false := by
  cases e : riseB s.data.toList with
  | false => rfl
  | true =>
    have h1 : riseB (s.data.toList.take (k + 2)) = true := riseB_pre _ (s.data.toList.drop (k + 2)) (by rw [List.take_append_drop]; exact e)
    rw [riseB_take h, decide_eq_false hn, Bool.and_false] at h1
    cases h1
theorem riseB_take' {s : ByteArray} {p i : Nat} (hpi : p + 1 = i) (h : i < s.size) (hp : p < s.size) : riseB (s.data.toList.take (i + 1)) = (riseB (s.data.toList.take i) && decide ((s[p].toNat : Int) < (s[i].toNat : Int))) := by
  subst hpi; exact riseB_take h
theorem rise_no' {s : ByteArray} {p i : Nat} (hpi : p + 1 = i) (h : i < s.size) (hp : p < s.size) (hn : ¬ (s[p].toNat : Int) < (s[i].toNat : Int)) : riseB s.data.toList = false := by
  subst hpi; exact rise_no h hn
/-- What signs tell. -/
def unt : List UInt8 → List Nat
  | [] => []
  | c :: l => (c.toNat - 48) :: unt l
theorem unt_len (l : List UInt8) : (unt l).length = l.length := by
  induction l with
  | nil => rfl
  | cons c l ih => simp [unt, ih]
theorem unt_tb (l : List UInt8) : digB l = true → tb (unt l) = l ∧ ∀ d ∈ unt l, d ≤ 9 := by
  induction l with
  | nil => intro _; exact ⟨rfl, fun d hd => by cases hd⟩
  | cons c l ih =>
    intro h
    have h' : dgB c = true ∧ digB l = true := by simpa [digB] using h
    have hc := (dgB_iff c).1 h'.1
    obtain ⟨i1, i2⟩ := ih h'.2
    have hcc : dc (c.toNat - 48) = c := by
      apply UInt8.toNat_inj.1
      rw [dc_toNat (by omega)]; omega
    refine ⟨?_, ?_⟩
    · rw [unt, tb, List.map_cons, hcc]
      exact congrArg (c :: ·) i1
    · intro d hd
      rw [unt] at hd
      rcases List.mem_cons.1 hd with e | e
      · omega
      · exact i2 d e
/-- The digits of a text. -/
theorem rt_ds {s : ByteArray} (h : rtB s = true) : ∃ ds : List Nat, s = ⟨(tb ds).toArray⟩ ∧ (∀ d ∈ ds, d ≤ 9) ∧ ds.length ≤ 10 := by
  unfold rtB at h
  simp only [Bool.and_eq_true, decide_eq_true_eq] at h
  obtain ⟨⟨h1, h2⟩, _⟩ := h
  obtain ⟨e1, e2⟩ := unt_tb s.data.toList h2
  refine ⟨unt s.data.toList, ?_, e2, by rw [unt_len]; simp; omega⟩
  rw [e1]
theorem rt_no1 {s : ByteArray} (h : ¬ (1 ≤ (s.size : Int) ∧ (s.size : Int) ≤ 10)) : rtB s = false := by unfold rtB; rw [decide_eq_false h]; rfl
theorem rt_no2 {s : ByteArray} (h : digB s.data.toList = false) : rtB s = false := by unfold rtB; rw [h]; simp
theorem rt_no3 {s : ByteArray} (h : riseB s.data.toList = false) : rtB s = false := by unfold rtB; rw [h]; simp
theorem rt_yes {s : ByteArray} (h : 1 ≤ (s.size : Int) ∧ (s.size : Int) ≤ 10) (h2 : riseB s.data.toList = true) : rtB s = digB s.data.toList := by unfold rtB; rw [decide_eq_true h, h2]; simp
theorem rise_all {s : ByteArray} {k : Nat} (h : riseB (s.data.toList.take k) = true) (hk : s.size ≤ k) : riseB s.data.toList = true := by
  rwa [List.take_of_length_le (by simpa using hk)] at h
theorem isDigits_any (s : ByteArray) (w : World) (hs : s.size ≤ maxLen) :
    Calls Try.prog 31 #[.string s] w fun e w' => e = .returned (.bool (digB s.data.toList)) ∧ w = w' := by
  unfold maxLen at hs
  go_enter Try.func31, Try.ntmps31
  go_wp2
  go_loop [6] (fun i => ∃ k : Nat, k ≤ s.size ∧ i = .int .i64 k ∧ digB (s.data.toList.take k) = true) (fun i => s.size - (intOf i).toNat)
  case atStart => exact ⟨0, Nat.zero_le _, rfl, by simp [digB]⟩
  case round =>
    obtain ⟨k, hk, rfl, hd⟩ := hrel
    have HD := Lib.hid hd; clear hd
    by_cases hlt : k < s.size
    · by_cases hc : 48 ≤ (s[k].toNat : Int) ∧ (s[k].toNat : Int) ≤ 57
      · obtain ⟨hc1, hc2⟩ := hc
        go_wp2
        go_round
        case rel => exact ⟨k + 1, by omega, by go_num, by rw [take_snoc s k hlt, digB_snoc, HD.out, (dgB_iff _).2 ⟨hc1, hc2⟩]; rfl⟩
        case measure => simp [intOf]; omega
      · have hno : digB s.data.toList = false := digB_no s k hlt (by simp [dgB]; omega)
        have HN := Lib.hid hno; clear hno
        by_cases hc1 : (s[k].toNat : Int) < 48
        all_goals
          go_wp2
          go_ret
          exact ⟨ret_bool HN.out.symm, rfl⟩
    · go_wp2
      go_ret
      exact ⟨ret_bool (by rw [← take_all, ← HD.out, show k = s.size by omega]), rfl⟩
set_option maxHeartbeats 1000000 in
theorem rising_any (s : ByteArray) (w : World) (hs : s.size ≤ maxLen) :
    Calls Try.prog 19 #[.string s] w fun e w' => e = .returned (.bool (rtB s)) ∧ Below w.heap.size w w' := by
  have HDD := Lib.hid (fun W => isDigits_any s W hs)
  have hs' := hs
  unfold maxLen at hs'
  have HAD : Hid (∀ W, riseB s.data.toList = true → Calls Try.prog 25 #[.string s, .int .i64 1, .int .i64 10] W fun e w' => e = .returned (.bool (rtB s)) ∧ W = w') := by
    intro W hr
    by_cases h1 : 1 ≤ (s.size : Int)
    · by_cases h2 : (s.size : Int) ≤ 10
      · have HR := Lib.hid (rt_yes ⟨h1, h2⟩ hr)
        clear hr
        go_enter Try.func25, Try.ntmps25
        go_wp2_with (go_at_call 31; refine (HDD.out _).mono ?_; rintro e w' ⟨rfl, rfl⟩)
        go_ret
        exact ⟨ret_bool HR.out.symm, rfl⟩
      · have HR := Lib.hid (rt_no1 (s := s) (fun h => h2 h.2))
        clear hr
        go_enter Try.func25, Try.ntmps25
        go_wp2
        go_ret
        exact ⟨ret_bool HR.out.symm, rfl⟩
    · have HR := Lib.hid (rt_no1 (s := s) (fun h => h1 h.1))
      clear hr
      go_enter Try.func25, Try.ntmps25
      go_wp2
      go_ret
      exact ⟨ret_bool HR.out.symm, rfl⟩
  go_enter Try.func19, Try.ntmps19
  go_wp2
  go_loopw [3] (fun iv wr => ∃ i : Nat, iv = .int .i64 i ∧ 1 ≤ i ∧ (i = 1 ∨ i ≤ s.size) ∧ Hid (riseB (s.data.toList.take i) = true) ∧ Below w.heap.size w wr) (fun iv _ => s.size - (intOf iv).toNat)
  case atStart =>
    refine ⟨1, rfl, Nat.le_refl _, .inl rfl, ?_, Below.refl _ _⟩
    show riseB _ = true
    cases e : s.data.toList with
    | nil => rfl
    | cons c l => rfl
  case round =>
    obtain ⟨i, rfl, hi1, hk, HR, hbl⟩ := hrel
    obtain ⟨wo, rfl⟩ : ∃ wo : World, wo = wr := ⟨_, rfl⟩
    by_cases hlt : i < s.size
    · obtain ⟨p, hpi⟩ : ∃ p, p + 1 = i := ⟨i - 1, by omega⟩
      have hp : p < s.size := by omega
      have hltI : (i : Int) < (s.size : Int) := by omega
      have hi0 : (0 : Int) ≤ (p : Int) := by omega
      have hpI : (p : Int) < (s.size : Int) := by omega
      have f1 : IntKind.i64.wrap ((i : Int) - 1) = (p : Int) := by rw [IntWalk.i64_in] <;> omega
      by_cases hc : (s[p].toNat : Int) < (s[i].toNat : Int)
      · have hcF : ((s[i].toNat : Int) ≤ (s[p].toNat : Int)) = False := eq_false (by omega)
        have HR' : Hid (riseB (s.data.toList.take (i + 1)) = true) := by show _ = _; rw [riseB_take' hpi hlt hp, HR.out, decide_eq_true hc]; rfl
        clear hc hpi
        go_wp2
        go_quiet (fail)
        go_wp2
        go_roundw
        case rel => exact ⟨i + 1, by go_num, by omega, .inr hlt, HR', below_drewN hbl _⟩
        case measure => simp [intOf]; omega
      · have HN := Lib.hid (rt_no3 (rise_no' hpi hlt hp hc))
        have hcc : (s[i].toNat : Int) ≤ (s[p].toNat : Int) := by omega
        clear hc hpi
        go_wp2
        go_quiet (fail)
        go_wp2
        go_ret
        exact ⟨ret_bool HN.out.symm, below_drewN hbl _⟩
    · have hltI : ¬ (i : Int) < (s.size : Int) := by omega
      have HA := Lib.hid (fun W => HAD.out W (rise_all HR.out (by omega)))
      go_wp2_with (go_at_call 25; (with_reducible refine (HA.out _).mono ?_); rintro e w' ⟨rfl, rfl⟩)
      go_ret
      exact ⟨rfl, hbl⟩
set_option maxHeartbeats 1000000 in
theorem leText_any (s : ByteArray) (w : World) (hs : s.size ≤ maxLen) :
    Calls Try.prog 16 #[.string s] w fun e w' => e = .returned (.bool (rtB s)) ∧ Below w.heap.size w w' := by
  unfold maxLen at hs
  by_cases hz : 1 ≤ (s.size : Int) ∧ (s.size : Int) ≤ 10
  · have HI : Hid (∀ W, Calls Try.prog 23 #[.int .i64 s.size, .int .i64 1, .int .i64 10] W fun e w' => e = .returned (.bool true) ∧ W = w') := fun W => in_b _ _ _ _ _ (decide_eq_true hz)
    have HY := Lib.hid (fun h => rt_yes (s := s) hz h)
    obtain ⟨z0, z1⟩ := hz
    go_enter Try.func16, Try.ntmps16
    go_wp2_with (go_at_call 23; (with_reducible refine (HI.out _).mono ?_); rintro e w' ⟨rfl, rfl⟩)
    go_loopw [3] (fun iv wr => ∃ k : Nat, iv = .int .i64 k ∧ k ≤ s.size ∧ Hid (digB (s.data.toList.take k) = true) ∧ Hid (riseB (s.data.toList.take k) = true) ∧ Below w.heap.size w wr) (fun iv _ => s.size - (intOf iv).toNat)
    case atStart => exact ⟨0, rfl, Nat.zero_le _, by show digB _ = true; simp [digB], by show riseB _ = true; simp [riseB], Below.refl _ _⟩
    case round =>
      obtain ⟨k, rfl, hk, HD, HR, hbl⟩ := hrel
      obtain ⟨wo, rfl⟩ : ∃ wo : World, wo = wr := ⟨_, rfl⟩
      by_cases hlt : k < s.size
      · have hi1 : (k : Int) < (s.size : Int) := by omega
        by_cases hc : 48 ≤ (s[k].toNat : Int) ∧ (s[k].toNat : Int) ≤ 57
        · have HD' : Hid (digB (s.data.toList.take (k + 1)) = true) := by show _ = _; rw [take_snoc s k hlt, digB_snoc, HD.out, (dgB_iff _).2 hc]; rfl
          obtain ⟨hc1, hc2⟩ := hc
          have hF1 : ((s[k].toNat : Int) < 48) = False := eq_false (by omega)
          have hF2 : ((57 : Int) < (s[k].toNat : Int)) = False := eq_false (by omega)
          by_cases hk0 : k = 0
          · subst hk0
            have HR' : Hid (riseB (s.data.toList.take (0 + 1)) = true) := by
              show riseB _ = true
              cases e : s.data.toList with
              | nil => rfl
              | cons c l => rfl
            go_wp2
            go_quiet (fail)
            go_wp2
            go_roundw
            case rel => exact ⟨1, rfl, by omega, HD', HR', below_drewN hbl _⟩
            case measure => simp [intOf]; omega
          · obtain ⟨p, hpi⟩ : ∃ p, p + 1 = k := ⟨k - 1, by omega⟩
            have hp : p < s.size := by omega
            have hi2 : (0 : Int) ≤ (p : Int) := by omega
            have hi3 : (p : Int) < (s.size : Int) := by omega
            have f1 : IntKind.i64.wrap ((k : Int) - 1) = (p : Int) := by rw [IntWalk.i64_in] <;> omega
            have hpT : ((0 : Int) < (k : Int)) = True := eq_true (by omega)
            have hpT2 : (0 < k) = True := eq_true (by omega)
            by_cases hcc : (s[p].toNat : Int) < (s[k].toNat : Int)
            · have hF3 : ((s[k].toNat : Int) ≤ (s[p].toNat : Int)) = False := eq_false (by omega)
              have HR' : Hid (riseB (s.data.toList.take (k + 1)) = true) := by show _ = _; rw [riseB_take' hpi hlt hp, HR.out, decide_eq_true hcc]; rfl
              clear hcc hpi hk0
              go_wp2
              go_quiet (fail)
              go_wp2
              go_roundw
              case rel => exact ⟨k + 1, by go_num, hlt, HD', HR', below_drewN hbl _⟩
              case measure => simp [intOf]; omega
            · have HN := Lib.hid (rt_no3 (rise_no' hpi hlt hp hcc))
              have hF3 : (s[k].toNat : Int) ≤ (s[p].toNat : Int) := by omega
              clear hcc hpi hk0
              go_wp2
              go_quiet (fail)
              go_wp2
              go_ret
              exact ⟨ret_bool HN.out.symm, below_drewN hbl _⟩
        · have hno : digB s.data.toList = false := digB_no s k hlt (by simp [dgB]; omega)
          have HN := Lib.hid (rt_no2 hno); clear hno
          by_cases hc1 : (s[k].toNat : Int) < 48
          · go_wp2
            go_quiet (fail)
            go_wp2
            go_ret
            exact ⟨ret_bool HN.out.symm, below_drewN hbl _⟩
          · have hc2 : (57 : Int) < (s[k].toNat : Int) := by omega
            have hF1 : ((s[k].toNat : Int) < 48) = False := eq_false hc1
            clear hc
            go_wp2
            go_quiet (fail)
            go_wp2
            go_ret
            exact ⟨ret_bool HN.out.symm, below_drewN hbl _⟩
      · have HX : Hid (rtB s = true) := by
          show _ = _
          rw [HY.out (rise_all HR.out (by omega)), ← take_all, ← HD.out, show k = s.size by omega]
        have hi1 : ¬ (k : Int) < (s.size : Int) := by omega
        go_wp2
        go_ret
        exact ⟨ret_bool HX.out.symm, hbl⟩
  · have HI : Hid (∀ W, Calls Try.prog 23 #[.int .i64 s.size, .int .i64 1, .int .i64 10] W fun e w' => e = .returned (.bool false) ∧ W = w') := fun W => in_b _ _ _ _ _ (decide_eq_false hz)
    have HN := Lib.hid (rt_no1 hz)
    clear hz
    go_enter Try.func16, Try.ntmps16
    go_wp2_with (go_at_call 23; (with_reducible refine (HI.out _).mono ?_); rintro e w' ⟨rfl, rfl⟩)
    go_ret
    exact ⟨ret_bool HN.out.symm, Below.refl _ _⟩
theorem tb_inj {a b : List Nat} (ha : ∀ d ∈ a, d ≤ 9) (hb : ∀ d ∈ b, d ≤ 9) (h : tb a = tb b) : a = b := by
  have key : ∀ l : List Nat, (∀ d ∈ l, d ≤ 9) → unt (tb l) = l := by
    intro l
    induction l with
    | nil => intro _; rfl
    | cons d l ih =>
      intro h
      rw [tb, List.map_cons, unt, dc_toNat (h d List.mem_cons_self)]
      have := ih (fun x hx => h x (List.mem_cons_of_mem _ hx))
      unfold tb at this
      rw [this]; congr 1; omega
  rw [← key a ha, ← key b hb, h]
theorem bytes_inj {a b : List UInt8} (h : (⟨a.toArray⟩ : ByteArray) = ⟨b.toArray⟩) : a = b := by
  have := congrArg (fun x : ByteArray => x.data.toList) h
  simpa using this
/-- What both answer. -/
def MlIs (n : Int) (s : ByteArray) (t : List Nat) (ok : Bool) : Prop := (dvB n = true ∧ rtB s = true ∧ ∃ ds, s = ⟨(tb ds).toArray⟩ ∧ (∀ d ∈ ds, d ≤ 9) ∧ Res n.toNat ds t ok) ∨ ((dvB n = false ∨ rtB s = false) ∧ t = [] ∧ ok = false)
theorem MlIs.uniq {n : Int} {s : ByteArray} {t u : List Nat} {a b : Bool} (h : MlIs n s t a) (g : MlIs n s u b) : t = u ∧ a = b := by
  rcases h with ⟨h1, h2, ds, h3, h4, h5⟩ | ⟨h1, rfl, rfl⟩ <;> rcases g with ⟨g1, g2, es, g3, g4, g5⟩ | ⟨g1, rfl, rfl⟩
  · have e : ds = es := tb_inj h4 g4 (bytes_inj (h3.symm.trans g3))
    subst e
    exact h5.uniq g5
  · rw [h1, h2] at g1; rcases g1 with h | h <;> cases h
  · rw [g1, g2] at h1; rcases h1 with h | h <;> cases h
  · exact ⟨rfl, rfl⟩
set_option maxHeartbeats 1000000 in
theorem iM_any (n : Int) (s : ByteArray) (w : World) (hs : s.size ≤ maxLen) :
    Calls Try.prog 8 #[.int .i64 n, .string s] w fun e w' => (∃ (t : List Nat) (ok : Bool), e = .returned (.tuple #[.string ⟨(tb t).toArray⟩, .bool ok]) ∧ MlIs n s t ok) ∧ Below w.heap.size w w' := by
  cases h1 : dvB n with
  | false =>
    have z1 := fun W => isDivisor_any n W
    rw [h1] at z1
    have HZ1 := Lib.hid z1
    have HR : Hid (MlIs n s [] false) := .inr ⟨.inl h1, rfl, rfl⟩
    clear h1 z1
    go_enter Try.func8, Try.ntmps8
    go_wp2_with (go_at_call 18; (with_reducible refine (HZ1.out _).mono ?_); rintro e w' ⟨rfl, rfl⟩)
    go_ret2
    exact ⟨⟨[], false, rfl, HR.out⟩, Below.refl _ _⟩
  | true =>
    cases h2 : rtB s with
    | false =>
      have z1 := fun W => isDivisor_any n W
      rw [h1] at z1
      have z2 := fun W => rising_any s W hs
      rw [h2] at z2
      have HZ1 := Lib.hid z1
      have HZ2 := Lib.hid z2
      have HR : Hid (MlIs n s [] false) := .inr ⟨.inr h2, rfl, rfl⟩
      clear h1 z1 h2 z2
      go_enter Try.func8, Try.ntmps8
      go_wp2_with (first | (go_at_call 18; (with_reducible refine (HZ1.out _).mono ?_); rintro e w' ⟨rfl, rfl⟩) | (go_at_call 19; (with_reducible refine (HZ2.out _).mono ?_); rintro e w1 ⟨rfl, b1⟩))
      go_ret2
      exact ⟨⟨[], false, rfl, HR.out⟩, b1⟩
    | true =>
      obtain ⟨ds, hds, hd9, hdl⟩ := rt_ds h2
      obtain ⟨n0, n1⟩ := (dvB_iff n).1 h1
      obtain ⟨m, rfl⟩ : ∃ m : Nat, n = (m : Int) := ⟨n.toNat, by omega⟩
      have z1 := fun W => isDivisor_any (m : Int) W
      rw [h1] at z1
      have z2 := fun W => rising_any s W hs
      rw [h2] at z2
      have HZ1 := Lib.hid z1
      have HZ2 := Lib.hid z2
      have HL := Lib.hid (fun W => iLm_any m ds s W (by omega) (by omega) hds hd9 hdl)
      have HG : Hid (∀ t ok, Res m ds t ok → MlIs m s t ok) := fun t ok h => .inl ⟨h1, h2, ds, hds, hd9, by rw [Int.toNat_natCast]; exact h⟩
      clear h1 z1 h2 z2 hds hd9 hdl n0 n1
      go_enter Try.func8, Try.ntmps8
      go_wp2_with (first | (go_at_call 18; (with_reducible refine (HZ1.out _).mono ?_); rintro e w' ⟨rfl, rfl⟩) | (go_at_call 19; (with_reducible refine (HZ2.out _).mono ?_); rintro e w1 ⟨rfl, b1⟩) | (go_at_call 20; (with_reducible refine (HL.out _).mono ?_); rintro e w2 ⟨⟨t, ok, rfl, hr⟩, b2⟩; have HR := Lib.hid (HG.out _ _ hr); clear hr))
      go_ret2
      exact ⟨⟨t, ok, rfl, HR.out⟩, chain b1 b2⟩
set_option maxHeartbeats 1000000 in
theorem sM_any (n : Int) (s : ByteArray) (w : World) (hs : s.size ≤ maxLen) :
    Calls Try.prog 7 #[.int .i64 n, .string s] w fun e w' => (∃ (t : List Nat) (ok : Bool), e = .returned (.tuple #[.string ⟨(tb t).toArray⟩, .bool ok]) ∧ MlIs n s t ok) ∧ Below w.heap.size w w' := by
  cases h1 : dvB n with
  | false =>
    have z1 := fun W => leDivisor_any n W
    rw [h1] at z1
    have HZ1 := Lib.hid z1
    have HR : Hid (MlIs n s [] false) := .inr ⟨.inl h1, rfl, rfl⟩
    clear h1 z1
    go_enter Try.func7, Try.ntmps7
    go_wp2_with (go_at_call 15; (with_reducible refine (HZ1.out _).mono ?_); rintro e w' ⟨rfl, rfl⟩)
    go_ret2
    exact ⟨⟨[], false, rfl, HR.out⟩, Below.refl _ _⟩
  | true =>
    cases h2 : rtB s with
    | false =>
      have z1 := fun W => leDivisor_any n W
      rw [h1] at z1
      have z2 := fun W => leText_any s W hs
      rw [h2] at z2
      have HZ1 := Lib.hid z1
      have HZ2 := Lib.hid z2
      have HR : Hid (MlIs n s [] false) := .inr ⟨.inr h2, rfl, rfl⟩
      clear h1 z1 h2 z2
      go_enter Try.func7, Try.ntmps7
      go_wp2_with (first | (go_at_call 15; (with_reducible refine (HZ1.out _).mono ?_); rintro e w' ⟨rfl, rfl⟩) | (go_at_call 16; (with_reducible refine (HZ2.out _).mono ?_); rintro e w1 ⟨rfl, b1⟩))
      go_ret2
      exact ⟨⟨[], false, rfl, HR.out⟩, b1⟩
    | true =>
      obtain ⟨ds, hds, hd9, hdl⟩ := rt_ds h2
      obtain ⟨n0, n1⟩ := (dvB_iff n).1 h1
      obtain ⟨m, rfl⟩ : ∃ m : Nat, n = (m : Int) := ⟨n.toNat, by omega⟩
      have z1 := fun W => leDivisor_any (m : Int) W
      rw [h1] at z1
      have z2 := fun W => leText_any s W hs
      rw [h2] at z2
      have HZ1 := Lib.hid z1
      have HZ2 := Lib.hid z2
      have HL := Lib.hid (fun W => sLm_any m ds s W (by omega) (by omega) hds hd9 hdl)
      have HG : Hid (∀ t ok, Res m ds t ok → MlIs m s t ok) := fun t ok h => .inl ⟨h1, h2, ds, hds, hd9, by rw [Int.toNat_natCast]; exact h⟩
      clear h1 z1 h2 z2 hds hd9 hdl n0 n1
      go_enter Try.func7, Try.ntmps7
      go_wp2_with (first | (go_at_call 15; (with_reducible refine (HZ1.out _).mono ?_); rintro e w' ⟨rfl, rfl⟩) | (go_at_call 16; (with_reducible refine (HZ2.out _).mono ?_); rintro e w1 ⟨rfl, b1⟩) | (go_at_call 17; (with_reducible refine (HL.out _).mono ?_); rintro e w2 ⟨⟨t, ok, rfl, hr⟩, b2⟩; have HR := Lib.hid (HG.out _ _ hr); clear hr))
      go_ret2
      exact ⟨⟨t, ok, rfl, HR.out⟩, chain b1 b2⟩
set_option maxHeartbeats 1000000 in
theorem FnExactLeastMultiple_law (n : Int) (s : ByteArray) (_hn : (Lit.int .i64 n).wf = true) (hs : s.size ≤ maxLen) (w : World) :
    Calls Try.prog 3 #[.int .i64 n, .string s] w fun e w' => e = .returned (.bool true) ∧ Below w.heap.size w w' := by
  have hs' := hs
  unfold maxLen at hs'
  by_cases hb : (s.size : Int) ≤ 1048576
  case neg =>
    go_enter Try.func3, Try.ntmps3
    go_wp2
    go_ret
    exact ⟨rfl, Below.refl _ _⟩
  case pos =>
    go_enter Try.func3, Try.ntmps3
    go_wp2_with (first | (go_at_call 7; go_must ((with_reducible refine (sM_any _ _ _ hs).mono ?_); rintro e w1 ⟨⟨l, a, rfl, hr⟩, b1⟩; have HR := Lib.hid hr; clear hr)) | (go_at_call 8; go_must ((with_reducible refine (iM_any _ _ _ hs).mono ?_); rintro e w2 ⟨⟨q, o, rfl, hq⟩, b2⟩; have e0 := (HR.out.uniq hq).1; have e1 := (HR.out.uniq hq).2; subst e0; subst e1; clear hq)))
    go_ret
    exact ⟨rfl, chain b1 b2⟩
end Go.Proofs.Ytghjpanabphbpab
