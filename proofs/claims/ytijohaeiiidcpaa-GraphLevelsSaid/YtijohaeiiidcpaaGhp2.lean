/-
  PLAIN. The heap keeps what it holds.
-/
import Derived.Test.YtijohaeiiidcpaaGhp
namespace Go.Proofs.Ytijohaeiiidcpaa
theorem set_count : ∀ (l : List Nat) (i v d : Nat), i < l.length → (l.set i v).count d + (if gt l i = d then 1 else 0) = l.count d + (if v = d then 1 else 0)
  | [], _, _, _, h => absurd h (Nat.not_lt_zero _)
  | x :: l, 0, v, d, _ => by
    show (v :: l).count d + (if x = d then 1 else 0) = (x :: l).count d + _
    rw [List.count_cons, List.count_cons]
    simp only [beq_iff_eq]
    omega
  | x :: l, i + 1, v, d, h => by
    have ih := set_count l i v d (by simpa using h)
    show (x :: l.set i v).count d + (if gt l i = d then 1 else 0) = (x :: l).count d + _
    rw [List.count_cons, List.count_cons]
    omega
theorem swL_count (l : List Nat) {i j : Nat} (hi : i < l.length) (hj : j < l.length) (d : Nat) : (swL l i j).count d = l.count d := by
  unfold swL
  have h1 := set_count l i (gt l j) d hi
  have h2 := set_count (l.set i (gt l j)) j (gt l i) d (by rw [List.length_set]; exact hj)
  have h3 : gt (l.set i (gt l j)) j = gt l j := by
    rw [gt_set hi]
    split
    · rfl
    · rfl
  rw [h3] at h2
  omega
theorem upF_count : ∀ (f : Nat) (l : List Nat) (j : Nat), j < l.length → ∀ d, (upF f l j).count d = l.count d
  | 0, _, _, _, _ => rfl
  | f + 1, l, j, hj, d => by
    unfold upF
    split
    · rfl
    · split
      · rw [upF_count f _ _ (by rw [swL_len]; omega) d, swL_count l (by omega) hj]
      · rfl
theorem downF_count : ∀ (f : Nat) (l : List Nat) (i n : Nat), n ≤ l.length → i < l.length → ∀ d, (downF f l i n).count d = l.count d
  | 0, _, _, _, _, _, _ => rfl
  | f + 1, l, i, n, hn, hi, d => by
    unfold downF
    split
    · rfl
    · have hk : kidF l i n < l.length := by unfold kidF; split <;> omega
      split
      · rw [downF_count f _ _ _ (by rw [swL_len]; exact hn) (by rw [swL_len]; exact hk) d, swL_count l hi hk]
      · rfl
theorem pushL_count (l : List Nat) (x d : Nat) : (pushL l x).count d = l.count d + (if x = d then 1 else 0) := by
  unfold pushL
  rw [upF_count _ _ _ (by simp) d, List.count_append, List.count_singleton]
  simp only [beq_iff_eq]
theorem pushL_len (l : List Nat) (x : Nat) : (pushL l x).length = l.length + 1 := by unfold pushL; rw [upF_len]; simp
theorem popD_len (l : List Nat) : (popD l).length = l.length := by unfold popD; rw [downF_len, swL_len]
theorem popL_len {l : List Nat} : (popL l).2.length = l.length - 1 := by
  show (popD l).dropLast.length = _
  rw [List.length_dropLast, popD_len]
theorem popL_count {l : List Nat} (h : l ≠ []) (d : Nat) : l.count d = (popL l).2.count d + (if (popL l).1 = d then 1 else 0) := by
  have hl : 0 < l.length := List.length_pos_iff.2 h
  have h1 : (popD l).count d = l.count d := by
    unfold popD
    rw [downF_count _ _ _ _ (by rw [swL_len]; omega) (by rw [swL_len]; exact hl) d, swL_count l hl (by omega)]
  have h2 : popD l ≠ [] := fun e => by have := popD_len l; rw [e] at this; simp at this; omega
  have h3 : popD l = (popD l).dropLast ++ [gt (popD l) (l.length - 1)] := by
    conv => lhs; rw [← List.dropLast_concat_getLast h2]
    rw [List.getLast_eq_getElem]
    congr 2
    rw [gt_at (by rw [popD_len]; omega)]
    congr 1
    rw [popD_len]
  show l.count d = (popD l).dropLast.count d + (if gt (popD l) (l.length - 1) = d then 1 else 0)
  rw [← h1]
  conv => lhs; rw [h3]
  rw [List.count_append, List.count_singleton]
  simp only [beq_iff_eq]
end Go.Proofs.Ytijohaeiiidcpaa
