/-
  Readings: the next one of a kind in the model; how many there are.
-/
import Derived.Test.YtlkeemnnncnibaaMiSp8
namespace Go.Proofs.Ytlkeemnnncnibaa
open Go.RowKit

theorem cK_pos (n : Nat) (k : ByteArray) (h1 : 1 ≤ n) (h9 : n ≤ 9) (hk : kB k = true) : 0 < cK (KI n k) n [] := by
  rcases kB_of hk with e | e | e | e | e | e <;> subst e
  · rw [KI_a, cK_dif 1 n [] rfl]
    have h : ∀ n : Fin 10, 0 < n.val → 0 < wd n.val 0 1 := by decide +kernel
    exact h ⟨n, by omega⟩ (by show 0 < n; omega)
  · rw [KI_m, cK_opp mir n [] rfl]
    have h : ∀ n : Fin 10, 0 < co mir (0 + n.val) [] := by decide +kernel
    exact h ⟨n, by omega⟩
  · rw [KI_u, cK_opp ups n [] rfl]
    have h : ∀ n : Fin 10, 0 < co ups (0 + n.val) [] := by decide +kernel
    exact h ⟨n, by omega⟩
  · rw [KI_r, cK_ris n h9 [] rfl]
    have h : ∀ n : Fin 10, 0 < cr n.val [] := by decide +kernel
    exact h ⟨n, by omega⟩
  · rw [KI_f, cK_fal n h9 [] rfl]
    have h : ∀ n : Fin 10, 0 < cr n.val [] := by decide +kernel
    exact h ⟨n, by omega⟩
  · rw [KI_d, cK_dif n n [] rfl]
    have h : ∀ n : Fin 10, 0 < wd n.val 0 n.val := by decide +kernel
    exact h ⟨n, by omega⟩
theorem LF_all (I : List UInt8 → Bool) (l : Nat) (h1 : 1 ≤ l) : LF I l [] [] = LK I l [] := by
  unfold LF
  rw [List.filter_eq_self]
  intro t ht
  obtain ⟨_, r, hr, hl, _⟩ := LK_mem _ _ _ _ ht
  cases t with
  | nil => simp at hr; rw [hr] at hl; simp at hl; omega
  | cons c t => rfl
theorem fst_empty0 {I : List UInt8 → Bool} {l : Nat} {beh : List UInt8} (h1 : 1 ≤ l) : ((fst I l [] beh).toList == []) = decide (LF I l [] beh = []) := by
  unfold fst
  rw [toL]
  have := hd_nil (L := LF I l [] beh) (fun t ht => by
    unfold LF at ht
    obtain ⟨_, r, hr, hl, _⟩ := LK_mem _ _ _ _ (List.mem_filter.1 ht).1
    intro he
    rw [he] at hr; simp at hr; rw [hr] at hl; simp at hl; omega)
  by_cases h : LF I l [] beh = []
  · rw [decide_eq_true h, this.2 h]; rfl
  · rw [decide_eq_false h, beq_eq_false_iff_ne]; exact fun e => h (this.1 e)
theorem miNext_any (t : List UInt8) (k : ByteArray) (w : World) (h1 : 1 ≤ t.length) (h9 : t.length ≤ 9) (hk : kB k = true) :
    Calls Try.prog 39 #[.string ⟨t.toArray⟩, .string k] w fun e w' => e = .returned (.string ⟨(nx (KI t.length k) t).toArray⟩) ∧ Below w.heap.size w w' := by
  have hf1 := fun W => miFirst_any t.length k t h1 h9 hk (.inr rfl) t.length [] W (by simp) rfl
  have hf2 := fun W => miFirst_any t.length k [] h1 h9 hk (.inl rfl) t.length [] W (by simp) rfl
  have hem := fst_empty0 (I := KI t.length k) (l := t.length) (beh := t) h1
  have hnx : nx (KI t.length k) t = if LF (KI t.length k) t.length [] t = [] then hdl (LK (KI t.length k) t.length []) else hdl (LF (KI t.length k) t.length [] t) := rfl
  have h2 : fst (KI t.length k) t.length [] [] = ⟨(hdl (LK (KI t.length k) t.length [])).toArray⟩ := by unfold fst; rw [LF_all _ _ h1]
  obtain ⟨s, hs⟩ : ∃ s : ByteArray, s = ⟨t.toArray⟩ := ⟨_, rfl⟩
  have hsz : ((t.length : Nat) : Int) = (s.size : Int) := by rw [hs, sz_of]
  obtain ⟨X, hX⟩ : ∃ X : ByteArray, X = fst (KI t.length k) t.length [] t := ⟨_, rfl⟩
  obtain ⟨Y, hY⟩ : ∃ Y : ByteArray, Y = fst (KI t.length k) t.length [] [] := ⟨_, rfl⟩
  obtain ⟨R, hR⟩ : ∃ R : ByteArray, R = ⟨(nx (KI t.length k) t).toArray⟩ := ⟨_, rfl⟩
  have hf1' : ∀ W, Calls Try.prog 47 #[.int .i64 s.size, .string ⟨#[]⟩, .string k, .string s] W fun e w' => e = .returned (.string X) ∧ Below W.heap.size W w' := by rw [← hsz, hX, hs]; exact hf1
  have hf2' : ∀ W, Calls Try.prog 47 #[.int .i64 s.size, .string ⟨#[]⟩, .string k, .string ⟨#[]⟩] W fun e w' => e = .returned (.string Y) ∧ Below W.heap.size W w' := by rw [← hsz, hY]; exact hf2
  have HF1 := Lib.hid hf1'
  have HF2 := Lib.hid hf2'
  rw [← hX] at hem
  rw [← hR, ← hs]
  by_cases hl : LF (KI t.length k) t.length [] t = []
  · rw [decide_eq_true hl] at hem
    have HR : Hid (R = Y) := by show _ = _; rw [hR, hY, hnx, if_pos hl, h2]
    clear hf1 hf2 hf1' hf2' hX hY hR hs hsz hl hnx h2 h1 h9
    go_enter Try.func39, Try.ntmps39
    go_wp2_with (go_at_call 47; (first | ((with_reducible refine (HF1.out _).mono ?_); rintro e w1 ⟨rfl, b1⟩) | ((with_reducible refine (HF2.out _).mono ?_); rintro e w2 ⟨rfl, b2⟩)))
    go_ret
    exact ⟨ret_str HR.out.symm, chain b1 b2⟩
  · rw [decide_eq_false hl] at hem
    have HR : Hid (R = X) := by show _ = _; rw [hR, hX, hnx, if_neg hl]; rfl
    clear hf1 hf2 hf1' hf2' hX hY hR hs hsz hl hnx h2 h1 h9
    go_enter Try.func39, Try.ntmps39
    go_wp2_with (go_at_call 47; (first | ((with_reducible refine (HF1.out _).mono ?_); rintro e w1 ⟨rfl, b1⟩) | ((with_reducible refine (HF2.out _).mono ?_); rintro e w2 ⟨rfl, b2⟩)))
    go_ret
    exact ⟨ret_str HR.out.symm, b1⟩
end Go.Proofs.Ytlkeemnnncnibaa
