/-
  PLAIN. The law's own count of the components' nodes: where each node stands.
-/
import Derived.Test.YtijohaeiiidcpaaGor5
namespace Go.Proofs.Ytijohaeiiidcpaa
def putA (a c : List Nat) (v : Nat) : List Nat := c.foldl (fun a x => a.set x v) a
def atI (C : List (List Nat)) (n i : Nat) : List Nat := (List.range i).foldl (fun a j => putA a (lAt C j) (j + 1)) (zeros n)
def sumN (C : List (List Nat)) : Nat → Nat
  | 0 => 0
  | i + 1 => sumN C i + (lAt C i).length
theorem putA_len : ∀ (c a : List Nat) (v : Nat), (putA a c v).length = a.length
  | [], _, _ => rfl
  | x :: c, a, v => by
    show (putA (a.set x v) c v).length = _
    rw [putA_len c, List.length_set]
theorem putA_get {x : Nat} : ∀ (c a : List Nat) (v : Nat), x < a.length → gt (putA a c v) x = if x ∈ c then v else gt a x
  | [], _, _, _ => by simp [putA]
  | y :: c, a, v, h => by
    show gt (putA (a.set y v) c v) x = _
    rw [putA_get c _ v (by rw [List.length_set]; exact h)]
    by_cases h1 : x ∈ c
    · rw [if_pos h1, if_pos (List.mem_cons_of_mem _ h1)]
    · rw [if_neg h1]
      by_cases h2 : x = y
      · subst h2
        rw [gt_set h, if_pos rfl, if_pos (List.mem_cons_self ..)]
      · rw [if_neg (fun hc => (List.mem_cons.1 hc).elim h2 h1)]
        by_cases h3 : y < a.length
        · rw [gt_set h3, if_neg h2]
        · rw [List.set_eq_of_length_le (by omega)]
theorem putA_snoc (a c : List Nat) (x v : Nat) : putA a (c ++ [x]) v = (putA a c v).set x v := by
  unfold putA
  rw [List.foldl_append]
  rfl
theorem atI_succ (C : List (List Nat)) (n i : Nat) : atI C n (i + 1) = putA (atI C n i) (lAt C i) (i + 1) := by
  unfold atI
  rw [List.range_succ, List.foldl_append]
  rfl
theorem atI_len (C : List (List Nat)) (n : Nat) : ∀ i, (atI C n i).length = n
  | 0 => List.length_replicate
  | i + 1 => by rw [atI_succ, putA_len, atI_len C n i]
theorem atI_zero {C : List (List Nat)} {n x : Nat} (hx : x < n) : ∀ i, (∀ j, j < i → x ∉ lAt C j) → gt (atI C n i) x = 0
  | 0, _ => zget _ _
  | i + 1, h => by
    rw [atI_succ, putA_get _ _ _ (by rw [atI_len]; exact hx), if_neg (h i (by omega))]
    exact atI_zero hx i (fun j hj => h j (by omega))
section
variable {G C : List (List Nat)}
theorem atI_at (hP : Parts G C) {x : Nat} (hx : x < G.length) {j : Nat} (hj : x ∈ lAt C j) : ∀ i, i ≤ C.length → j < i → gt (atI C G.length i) x = j + 1
  | 0, _, h => absurd h (Nat.not_lt_zero _)
  | i + 1, hi, h => by
    rw [atI_succ, putA_get _ _ _ (by rw [atI_len]; exact hx)]
    by_cases e : j = i
    · subst e
      rw [if_pos hj]
    · rw [if_neg (fun hc => e (hP.dis j i x (by omega) (by omega) hj hc))]
      exact atI_at hP hx hj i (by omega) (by omega)
/-- A node's place is free until it is met. -/
theorem at_free (hP : Parts G C) {i k : Nat} (hi : i < C.length) (hk : k < (lAt C i).length) : gt (putA (atI C G.length i) ((lAt C i).take k) (i + 1)) (gt (lAt C i) k) = 0 := by
  have hm : gt (lAt C i) k ∈ lAt C i := by rw [gt_at hk]; exact List.getElem_mem hk
  have hx := hP.lt i hi _ hm
  rw [putA_get _ _ _ (by rw [atI_len]; exact hx), if_neg (fun hc => ?_), atI_zero hx i (fun j hj hc => ?_)]
  · have := hP.dis i j _ hi (by omega) hm hc
    omega
  · obtain ⟨a, ha, e⟩ := List.getElem_of_mem hc
    rw [List.length_take] at ha
    rw [List.getElem_take, gt_at hk] at e
    have := List.pairwise_iff_getElem.1 (hP.asc i hi) a k (by omega) hk (by omega)
    omega
theorem at_step (C : List (List Nat)) (n i k : Nat) (hk : k < (lAt C i).length) : putA (atI C n i) ((lAt C i).take (k + 1)) (i + 1) = (putA (atI C n i) ((lAt C i).take k) (i + 1)).set (gt (lAt C i) k) (i + 1) := by
  rw [List.take_succ_eq_append_getElem hk, putA_snoc, gt_at hk]
theorem at_end (C : List (List Nat)) (n i : Nat) {k : Nat} (hk : k = (lAt C i).length) : putA (atI C n i) ((lAt C i).take k) (i + 1) = atI C n (i + 1) := by
  rw [atI_succ, List.take_of_length_le (by omega)]
/-- No edge leads to a later component. -/
theorem at_edge (hP : Parts G C) (hG : ValidG G) {u k v : Nat} (h : nx G u k = some v) : gt (atI C G.length C.length) v ≤ gt (atI C G.length C.length) u := by
  have hu := nx_lt h
  have hv := hG u k v h
  obtain ⟨i, hi, h1⟩ := hP.all u hu
  obtain ⟨j, hj, h2⟩ := hP.all v hv
  rw [atI_at hP hu h1 C.length (Nat.le_refl _) hi, atI_at hP hv h2 C.length (Nat.le_refl _) hj]
  have := hP.edge i j u k v hi hj h h1 h2
  omega
theorem sumN_flat (C : List (List Nat)) : ∀ i, i ≤ C.length → sumN C i = ((C.take i).flatten).length
  | 0, _ => by simp [sumN]
  | i + 1, h => by
    show sumN C i + _ = _
    rw [sumN_flat C i (by omega), List.take_succ_eq_append_getElem (by omega), List.flatten_append, List.length_append]
    congr 1
    have e : lAt C i = C[i] := by show C.getD i [] = _; rw [List.getD_eq_getElem?_getD, List.getElem?_eq_getElem (by omega)]; rfl
    rw [e]
    simp
theorem sumN_all (hP : Parts G C) : sumN C C.length = G.length := by
  rw [sumN_flat C _ (Nat.le_refl _), List.take_of_length_le (Nat.le_refl _)]
  have e : ∀ i (hi : i < C.length), lAt C i = C[i] := fun i hi => by show C.getD i [] = _; rw [List.getD_eq_getElem?_getD, List.getElem?_eq_getElem hi]; rfl
  have hn : C.flatten.Nodup := by
    show List.Pairwise _ _
    rw [List.pairwise_flatten]
    refine ⟨fun c hc => ?_, ?_⟩
    · obtain ⟨i, hi, rfl⟩ := List.getElem_of_mem hc
      have := hP.asc i hi
      rw [e i hi] at this
      exact this.imp (fun h => by omega)
    · rw [List.pairwise_iff_getElem]
      intro i j hi hj hij x hx y hy hxy
      subst hxy
      have := hP.dis i j x hi hj (by rw [e i hi]; exact hx) (by rw [e j hj]; exact hy)
      omega
  have hp : C.flatten.Perm (List.range G.length) := by
    rw [List.perm_ext_iff_of_nodup hn List.nodup_range]
    intro x
    rw [List.mem_range, List.mem_flatten]
    constructor
    · rintro ⟨c, hc, hx⟩
      obtain ⟨i, hi, rfl⟩ := List.getElem_of_mem hc
      exact hP.lt i hi x (by rw [e i hi]; exact hx)
    · intro hx
      obtain ⟨i, hi, h⟩ := hP.all x hx
      rw [e i hi] at h
      exact ⟨C[i], List.getElem_mem hi, h⟩
  rw [hp.length_eq, List.length_range]
end
end Go.Proofs.Ytijohaeiiidcpaa
