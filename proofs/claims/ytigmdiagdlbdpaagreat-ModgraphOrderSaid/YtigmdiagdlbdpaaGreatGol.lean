/-
  PLAIN. The longest paths and the levels as functions on lists.
-/
import Derived.Test.YtigmdiagdlbdpaaGreatGor
namespace Go.Proofs.YtigmdiagdlbdpaaGreat
/-- The first k edges of a node. -/
def rowL (u : Nat) (l : List Nat) (r : List Nat) : List Nat := r.foldl (fun l v => l.set u (max (gt l u) (gt l v + 1))) l
def lonS (G : List (List Nat)) (l : List Nat) (c : List Nat) : List Nat := rowL (c.headD 0) l (lAt G (c.headD 0))
def lonK (G C : List (List Nat)) (n k : Nat) : List Nat := (C.take k).foldl (lonS G) (zeros n)
def badG (G : List (List Nat)) (c : List Nat) : Bool := decide (1 < c.length) || decide (c.headD 0 ∈ lAt G (c.headD 0))
def growL (L : List (List Nat)) (v : Nat) : List (List Nat) := L ++ List.replicate (v + 1 - L.length) []
def putL (L : List (List Nat)) (v x : Nat) : List (List Nat) := (growL L v).set v (lAt (growL L v) v ++ [x])
def levK (l : List Nat) (k : Nat) : List (List Nat) := (List.range k).foldl (fun L x => putL L (gt l x) x) []
theorem rowL_len (u : Nat) : ∀ (r l : List Nat), (rowL u l r).length = l.length
  | [], _ => rfl
  | v :: r, l => by
    show (rowL u (l.set u _) r).length = _
    rw [rowL_len u r, List.length_set]
theorem rowL_snoc (u : Nat) (l r : List Nat) (v : Nat) : rowL u l (r ++ [v]) = (rowL u l r).set u (max (gt (rowL u l r) u) (gt (rowL u l r) v + 1)) := by
  unfold rowL
  rw [List.foldl_append]
  rfl
theorem rowL_take {G : List (List Nat)} {u j v : Nat} (l : List Nat) (h : nx G u j = some v) : rowL u l ((lAt G u).take (j + 1)) = (rowL u l ((lAt G u).take j)).set u (max (gt (rowL u l ((lAt G u).take j)) u) (gt (rowL u l ((lAt G u).take j)) v + 1)) := by
  have h' : (lAt G u)[j]? = some v := h
  rw [List.take_add_one, h', Option.toList_some, rowL_snoc]
theorem gt_set_le {l : List Nat} {u x y b : Nat} (h : ∀ x, gt l x ≤ b) (hy : y ≤ b + 1) : gt (l.set u y) x ≤ b + 1 := by
  by_cases hu : u < l.length
  · rw [gt_set hu]
    split
    · exact hy
    · have := h x; omega
  · rw [List.set_eq_of_length_le (by omega)]
    have := h x; omega
theorem rowL_le (u : Nat) : ∀ (r l : List Nat) (b : Nat), (∀ x, gt l x ≤ b) → ∀ x, gt (rowL u l r) x ≤ b + r.length
  | [], _, _, h => h
  | v :: r, l, b, h => fun x => by
    have h1 : ∀ x, gt (l.set u (max (gt l u) (gt l v + 1))) x ≤ b + 1 := fun x => gt_set_le h (by have := h u; have := h v; omega)
    have h2 := rowL_le u r _ (b + 1) h1 x
    show gt (rowL u (l.set u _) r) x ≤ b + (r.length + 1)
    omega
theorem lonK_len (G C : List (List Nat)) (n : Nat) : ∀ k, (lonK G C n k).length = n := by
  intro k
  unfold lonK
  generalize C.take k = D
  have : ∀ (D : List (List Nat)) (l : List Nat), (D.foldl (lonS G) l).length = l.length := fun D => by
    induction D with
    | nil => intro l; rfl
    | cons c D ih => intro l; show (D.foldl (lonS G) (lonS G l c)).length = _; rw [ih]; exact rowL_len _ _ _
  rw [this]
  exact List.length_replicate
theorem lonK_succ {G C : List (List Nat)} {n k : Nat} (hk : k < C.length) : lonK G C n (k + 1) = lonS G (lonK G C n k) (lAt C k) := by
  unfold lonK
  rw [List.take_succ_eq_append_getElem hk, List.foldl_append]
  show lonS G _ C[k] = _
  congr 1
  show _ = C.getD k []
  rw [List.getD_eq_getElem?_getD, List.getElem?_eq_getElem hk]
  rfl
theorem lonK_le {G C : List (List Nat)} {n d : Nat} (hD : ∀ u, degG G u ≤ d) : ∀ k, k ≤ C.length → ∀ x, gt (lonK G C n k) x ≤ k * d
  | 0, _ => fun x => by show gt (zeros n) x ≤ _; rw [zget]; exact Nat.zero_le _
  | k + 1, hk => fun x => by
    rw [lonK_succ (C := C) (k := k) (by omega), Nat.succ_mul]
    have h0 : ∀ x, gt (lonK G C n k) x ≤ k * d := lonK_le hD k (by omega)
    have h1 := rowL_le ((lAt C k).headD 0) (lAt G ((lAt C k).headD 0)) _ _ h0 x
    have h2 : (lAt G ((lAt C k).headD 0)).length ≤ d := hD _
    unfold lonS
    omega
theorem levK_succ (l : List Nat) (k : Nat) : levK l (k + 1) = putL (levK l k) (gt l k) k := by
  unfold levK
  rw [List.range_succ, List.foldl_append]
  rfl
theorem growL_len (L : List (List Nat)) (v : Nat) : (growL L v).length = max L.length (v + 1) := by
  unfold growL
  rw [List.length_append, List.length_replicate]
  omega
theorem putL_len (L : List (List Nat)) (v x : Nat) : (putL L v x).length = max L.length (v + 1) := by unfold putL; rw [List.length_set, growL_len]
theorem grow_done {L : List (List Nat)} {v i : Nat} (h : v + 1 ≤ L.length + i) (hi : i = 0 ∨ L.length + i ≤ v + 1) : L ++ List.replicate i [] = growL L v := by
  unfold growL
  congr 2
  omega
theorem lAt_out {L : List (List Nat)} {i : Nat} (h : L.length ≤ i) : lAt L i = [] := by
  show L.getD i [] = []
  rw [List.getD_eq_getElem?_getD, List.getElem?_eq_none h]
  rfl
theorem lAt_left {L M : List (List Nat)} {i : Nat} (h : i < L.length) : lAt (L ++ M) i = lAt L i := by
  show (L ++ M).getD i [] = L.getD i []
  rw [List.getD_eq_getElem?_getD, List.getD_eq_getElem?_getD, List.getElem?_append_left h]
theorem grow_at {L : List (List Nat)} {v x : Nat} : lAt (growL L v) x = lAt L x := by
  by_cases h : x < L.length
  · exact lAt_left h
  · rw [lAt_out (L := L) (by omega)]
    show (L ++ List.replicate _ []).getD x [] = []
    rw [List.getD_eq_getElem?_getD, List.getElem?_append_right (by omega), List.getElem?_replicate]
    split <;> rfl
theorem levK_len {l : List Nat} {b : Nat} (hb : ∀ x, gt l x ≤ b) : ∀ k, (levK l k).length ≤ b + 1
  | 0 => Nat.zero_le _
  | k + 1 => by
    rw [levK_succ, putL_len]
    have := levK_len hb k
    have := hb k
    omega
/-- The rows stay short. -/
theorem levK_row {l : List Nat} : ∀ k i, (lAt (levK l k) i).length ≤ k
  | 0, i => by rw [show levK l 0 = [] from rfl]; exact Nat.le_refl _
  | k + 1, i => by
    rw [levK_succ]
    unfold putL
    rw [lAt_set (by rw [growL_len]; omega)]
    split
    · rw [List.length_append, grow_at]
      have := levK_row (l := l) k (gt l k)
      show _ + 1 ≤ _
      omega
    · rw [grow_at]
      have := levK_row (l := l) k i
      omega
def levelsG (G C : List (List Nat)) (n : Nat) : List (List Nat) × Nat := if C.any (badG G) then ([], 18) else (levK (lonK G C n C.length) n, 0)
theorem no_bad {G C : List (List Nat)} (h : ∀ i, i < C.length → badG G (lAt C i) = false) : C.any (badG G) = false := by
  rw [List.any_eq_false]
  intro c hc
  obtain ⟨i, hi, e⟩ := List.getElem_of_mem hc
  have := h i hi
  have e2 : lAt C i = C[i] := by show C.getD i [] = _; rw [List.getD_eq_getElem?_getD, List.getElem?_eq_getElem hi]; rfl
  rw [e2, e] at this
  rw [this]
  exact Bool.false_ne_true
theorem yes_bad {G C : List (List Nat)} {i : Nat} (hi : i < C.length) (h : badG G (lAt C i) = true) : C.any (badG G) = true := by
  rw [List.any_eq_true]
  have e2 : lAt C i = C[i] := by show C.getD i [] = _; rw [List.getD_eq_getElem?_getD, List.getElem?_eq_getElem hi]; rfl
  exact ⟨C[i], List.getElem_mem hi, by rw [← e2]; exact h⟩
end Go.Proofs.YtigmdiagdlbdpaaGreat
