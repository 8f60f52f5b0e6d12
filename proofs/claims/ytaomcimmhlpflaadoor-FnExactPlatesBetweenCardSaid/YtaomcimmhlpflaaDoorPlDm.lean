/-
  Plain facts on plates: the end of a text that is kept, and how many texts go on, step by step; nothing of the program.
-/
import Derived.Test.YtaomcimmhlpflaaDoorPlMath
namespace Go.Proofs.YtaomcimmhlpflaaDoor

/-- A text that begins a word, and is shorter. -/
def beg (Ws : List (List UInt8)) (t : List UInt8) : Bool := Ws.any (fun w => t.isPrefixOf w && decide (t.length < w.length))
theorem beg_iff (Ws : List (List UInt8)) (t : List UInt8) : beg Ws t = true ↔ ∃ w ∈ Ws, t <+: w ∧ t.length < w.length := by
  unfold beg
  simp only [List.any_eq_true, Bool.and_eq_true, decide_eq_true_eq, List.isPrefixOf_iff_prefix]
/-- The longest end of a text with which a word begins, without being it. -/
def stt (Ws : List (List UInt8)) : List UInt8 → List UInt8
  | [] => []
  | c :: r => if beg Ws (c :: r) = true then c :: r else stt Ws r
theorem stt_suf (Ws : List (List UInt8)) (t : List UInt8) : stt Ws t <:+ t := by
  induction t with
  | nil => exact List.suffix_refl _
  | cons c r ih =>
    rw [stt]
    split
    · exact List.suffix_refl _
    · exact ih.trans (List.suffix_cons c r)
theorem stt_beg (Ws : List (List UInt8)) (t : List UInt8) : stt Ws t = [] ∨ beg Ws (stt Ws t) = true := by
  induction t with
  | nil => exact .inl rfl
  | cons c r ih =>
    rw [stt]
    split
    · rename_i h; exact .inr h
    · exact ih
theorem stt_tail (Ws : List (List UInt8)) (t : List UInt8) : Tail Ws t (stt Ws t) := by
  refine ⟨stt_suf Ws t, ?_⟩
  intro w hw p hp hne hs
  induction t with
  | nil =>
    have : p = [] := List.suffix_nil.1 hs
    rw [this]; exact List.nil_suffix
  | cons c r ih =>
    rw [stt]
    split
    · exact hs
    · rename_i h
      rcases List.suffix_cons_iff.1 hs with e | e
      · exfalso
        apply h
        rw [beg_iff]
        refine ⟨w, hw, by rw [← e]; exact hp, ?_⟩
        rw [← e]
        have h1 := hp.length_le
        have h2 : p.length ≠ w.length := fun e2 => hne (hp.eq_of_length e2)
        omega
      · exact ih e
theorem stt_eqv {Ws : List (List UInt8)} {t : List UInt8} (hf : Free Ws t) : Eqv Ws t (stt Ws t) := tail_eqv hf (stt_tail Ws t)
theorem stt_free {Ws : List (List UInt8)} {t : List UInt8} (hf : Free Ws t) : Free Ws (stt Ws t) := hf.infix (stt_suf Ws t).isInfix
theorem stt_len (Ws : List (List UInt8)) (t : List UInt8) : (stt Ws t).length ≤ t.length := (stt_suf Ws t).length_le
theorem stt_self {Ws : List (List UInt8)} {t : List UInt8} (h : t = [] ∨ beg Ws t = true) : stt Ws t = t := by
  cases t with
  | nil => rfl
  | cons c r =>
    rcases h with h | h
    · cases h
    · rw [stt, if_pos h]
theorem stt_next {Ws : List (List UInt8)} {c : UInt8} {r : List UInt8} (h : beg Ws (c :: r) = false) : stt Ws (c :: r) = stt Ws r := by
  rw [stt, if_neg (by rw [h]; simp)]
theorem cnt_stt {Ws : List (List UInt8)} (rs : List (List UInt8)) {t : List UInt8} (hf : Free Ws t) : cnt Ws rs (stt Ws t) = cnt Ws rs t := (cnt_eqv rs (stt_eqv hf)).symm
/-- What one sign more adds. -/
def one (Ws : List (List UInt8)) (rs : List (List UInt8)) (u : List UInt8) (c : UInt8) : Nat := if Free Ws (u ++ [c]) then cnt Ws rs (stt Ws (u ++ [c])) else 0
theorem one_eq (Ws : List (List UInt8)) (rs : List (List UInt8)) (u : List UInt8) (c : UInt8) : one Ws rs u c = cnt Ws rs (u ++ [c]) := by
  unfold one
  split
  · rename_i h; exact cnt_stt rs h
  · rename_i h; exact (cnt_no h).symm
theorem cnt_step {Ws : List (List UInt8)} {r : List UInt8} {rs : List (List UInt8)} {u : List UInt8} (hf : Free Ws u) : cnt Ws (r :: rs) u = (r.map (one Ws rs u)).sum := by
  rw [cnt_cons hf]
  congr 1
  apply List.map_congr_left
  intro c _
  exact (one_eq Ws rs u c).symm
/-- The sum over the signs that are not barred is one over all. -/
theorem sum_filter (l : List UInt8) (p : UInt8 → Bool) (f : UInt8 → Nat) : ((l.filter p).map f).sum = (l.map (fun c => if p c = true then f c else 0)).sum := by
  induction l with
  | nil => rfl
  | cons c l ih =>
    rw [List.filter_cons]
    split
    · rename_i h; simp [h, ih]
    · rename_i h; simp [h, ih]
theorem sum_take_succ (l : List UInt8) (f : UInt8 → Nat) (k : Nat) (h : k < l.length) : ((l.take (k + 1)).map f).sum = ((l.take k).map f).sum + f l[k] := by
  rw [List.take_succ_eq_append_getElem h, List.map_append, List.sum_append, List.map_cons, List.map_nil, List.sum_cons, List.sum_nil, Nat.add_zero]
theorem sum_take_le (l : List UInt8) (f : UInt8 → Nat) (k : Nat) : ((l.take k).map f).sum ≤ (l.map f).sum := by
  have : l.map f = (l.take k).map f ++ (l.drop k).map f := by rw [← List.map_append, List.take_append_drop]
  rw [this, List.sum_append]; omega
theorem sum_bd (l : List UInt8) (f : UInt8 → Nat) (k m n : Nat) (hl : l.length ≤ n) (h : ∀ c ∈ l, f c ≤ m) : ((l.take k).map f).sum ≤ n * m := by
  have h1 := sum_take_le l f k
  have h2 := sum_le_mul l f m h
  have h3 := Nat.mul_le_mul_right m hl
  omega
/-- Both lists of words spoil the same texts. -/
def SameFree (Ws Vs : List (List UInt8)) : Prop := ∀ t, Free Ws t ↔ Free Vs t
theorem SameFree.refl (Ws : List (List UInt8)) : SameFree Ws Ws := fun _ => Iff.rfl
theorem SameFree.perm {Ws Vs : List (List UInt8)} (h : Ws.Perm Vs) : SameFree Ws Vs := fun _ => ⟨fun k w hw => k w (h.mem_iff.2 hw), fun k w hw => k w (h.mem_iff.1 hw)⟩
theorem SameFree.mem {Ws Vs : List (List UInt8)} (h : ∀ w, w ∈ Ws ↔ w ∈ Vs) : SameFree Ws Vs := fun _ => ⟨fun k w hw => k w ((h w).2 hw), fun k w hw => k w ((h w).1 hw)⟩
/-- A word in which another one stands may be left out. -/
theorem SameFree.drop {Us : List (List UInt8)} {w o : List UInt8} (ho : o ∈ Us) (hi : o <:+: w) : SameFree (w :: Us) Us := by
  intro t
  constructor
  · intro k x hx; exact k x (by simp [hx])
  · intro k x hx
    rcases List.mem_cons.1 hx with rfl | hx
    · exact fun hxt => k o ho (hi.trans hxt)
    · exact k x hx
theorem SameFree.trans {A B C : List (List UInt8)} (h : SameFree A B) (k : SameFree B C) : SameFree A C := fun t => (h t).trans (k t)
theorem SameFree.symm {A B : List (List UInt8)} (h : SameFree A B) : SameFree B A := fun t => (h t).symm
/-- Same tests in front. -/
theorem SameFree.app {A B C : List (List UInt8)} (h : SameFree A B) : SameFree (C ++ A) (C ++ B) := by
  intro t
  constructor <;> intro k x hx <;> rcases List.mem_append.1 hx with hx | hx
  · exact k x (by simp [hx])
  · exact ((h t).1 (fun y hy => k y (by simp [hy]))) x hx
  · exact k x (by simp [hx])
  · exact ((h t).2 (fun y hy => k y (by simp [hy]))) x hx
theorem free_suffix {Ws : List (List UInt8)} {t : List UInt8} {c : UInt8} (hf : Free Ws t) : decide (Free Ws (t ++ [c])) = !(Ws.any (fun w => w.isSuffixOf (t ++ [c]))) := by
  rw [Bool.eq_iff_iff, decide_eq_true_eq, free_snoc hf]
  simp only [Bool.not_eq_true', List.any_eq_false, List.isSuffixOf_iff_suffix]
end Go.Proofs.YtaomcimmhlpflaaDoor
