/-
  PLAIN. What the components are: parts of the nodes, in an order along the edges; two nodes lie together if and only if each reaches the other.
-/
import Derived.Test.YtijohaeiiidcpaaGor4
namespace Go.Proofs.Ytijohaeiiidcpaa
/-- A division of the nodes into ascending parts. -/
structure Parts (G : List (List Nat)) (C : List (List Nat)) : Prop where
  lt : ∀ i, i < C.length → ∀ x ∈ lAt C i, x < G.length
  asc : ∀ i, i < C.length → (lAt C i).Pairwise (· < ·)
  ne : ∀ i, i < C.length → lAt C i ≠ []
  dis : ∀ i j x, i < C.length → j < C.length → x ∈ lAt C i → x ∈ lAt C j → i = j
  all : ∀ x, x < G.length → ∃ i, i < C.length ∧ x ∈ lAt C i
  edge : ∀ i j u k v, i < C.length → j < C.length → nx G u k = some v → u ∈ lAt C i → v ∈ lAt C j → j ≤ i
  tog : ∀ i x y, i < C.length → x ∈ lAt C i → y < G.length → (y ∈ lAt C i ↔ Re G x y ∧ Re G y x)
def ordN (N : List Nat) (G : List (List Nat)) : List (List Nat) := (orderP (gaK N N.length).places G (gaK N N.length).comps.length).map (lAt (gaK N N.length).comps)
def compsG (G : List (List Nat)) : List (List Nat) := ordN (numbersS G (List.range G.length)) G
theorem lAt_map {D : List Nat} {L : List (List Nat)} {i : Nat} (h : i < D.length) : lAt (D.map (lAt L)) i = lAt L D[i] := by
  show (D.map (lAt L)).getD i [] = _
  rw [List.getD_eq_getElem?_getD, List.getElem?_map, List.getElem?_eq_getElem h]
  rfl
theorem nodup_at {D : List Nat} (h : D.Nodup) {i j : Nat} (hi : i < D.length) (hj : j < D.length) (e : D[i] = D[j]) : i = j := by
  have h' := List.pairwise_iff_getElem.1 h
  rcases Nat.lt_trichotomy i j with h1 | h1 | h1
  · exact absurd e (h' i j hi hj h1)
  · exact h1
  · exact absurd e.symm (h' j i hj hi h1)
theorem gaK_ne {N : List Nat} (hb : ∀ x, gt N x ≤ N.length) : ∀ k, k ≤ N.length → ∀ i, i < (gaK N k).comps.length → lAt (gaK N k).comps i ≠ []
  | 0, _ => fun i hi => absurd hi (Nat.not_lt_zero _)
  | k + 1, hk => fun i hi => by
    have ih := gaK_ne hb k (by omega)
    have h := gaK_i hb k (by omega)
    rw [gaK_succ] at hi ⊢
    obtain ⟨s, hs⟩ : ∃ s, gaK N k = s := ⟨_, rfl⟩
    rw [hs] at ih h hi ⊢
    have hn := hb k
    by_cases h0 : gt s.known (gt N k) = 0
    · have e : newG s (gt N k) = { s with comps := s.comps ++ [[]], known := s.known.set (gt N k) (s.comps.length + 1) } := by unfold newG; rw [if_pos h0]
      have e2 : gt (s.known.set (gt N k) (s.comps.length + 1)) (gt N k) = s.comps.length + 1 := by rw [gt_set (by rw [h.lk]; omega), if_pos rfl]
      rw [e] at hi ⊢
      unfold putG at hi ⊢
      simp only [e2, Nat.add_sub_cancel] at hi ⊢
      rw [List.length_set, List.length_append, List.length_singleton] at hi
      rw [lAt_set (by rw [List.length_append, List.length_singleton]; omega)]
      split
      · simp
      · rw [lAt_app (by omega)]
        exact ih i (by omega)
    · have e : newG s (gt N k) = s := by unfold newG; rw [if_neg h0]
      have h2 := h.kb (gt N k)
      rw [e] at hi ⊢
      unfold putG at hi ⊢
      simp only at hi ⊢
      rw [List.length_set] at hi
      rw [lAt_set (by omega)]
      split
      · simp
      · exact ih i hi
theorem comps_parts {G : List (List Nat)} (hG : ValidG G) : Parts G (compsG G) := by
  have hN := nums_ok hG (List.range G.length) (fun v hv => List.mem_range.1 hv)
  unfold compsG
  obtain ⟨N, hNe⟩ : ∃ N, numbersS G (List.range G.length) = N := ⟨_, rfl⟩
  rw [hNe] at hN ⊢
  have hb : ∀ x, gt N x ≤ N.length := fun x => by rw [hN.len]; exact hN.bnd x
  have hGI := gaK_i hb N.length (Nat.le_refl _)
  unfold ordN
  obtain ⟨S, hS⟩ : ∃ S, gaK N N.length = S := ⟨_, rfl⟩
  rw [hS] at hGI ⊢
  have hne : ∀ i, i < S.comps.length → lAt S.comps i ≠ [] := by have := gaK_ne hb N.length (Nat.le_refl _); rwa [hS] at this
  have hl := hN.len
  have hz : ∀ x, x < G.length → gt N x ≠ 0 := fun x hx => hN.all x (List.mem_range.2 hx)
  -- a node lies in the component of its place
  have hmem : ∀ i, i < S.comps.length → ∀ x, x ∈ lAt S.comps i ↔ x < G.length ∧ gt S.places x = i := fun i hi x => by
    rw [hGI.mem i hi, ← hl]
    constructor
    · rintro ⟨h1, h2⟩
      have := hGI.pl x h1
      exact ⟨h1, by omega⟩
    · rintro ⟨h1, h2⟩
      have := hGI.pl x h1
      exact ⟨h1, by omega⟩
  have hP : ∀ x, x < G.length → gt S.places x < S.comps.length := fun x hx => by
    have h1 := hGI.pl x (by omega)
    have h2 := hGI.kb (gt N x)
    omega
  have hPN : ∀ x y, x < G.length → y < G.length → (gt S.places x = gt S.places y ↔ gt N x = gt N y) := fun x y hx hy => by
    have h1 := hGI.pl x (by omega)
    have h2 := hGI.pl y (by omega)
    constructor
    · intro e
      exact hGI.inj _ _ (hGI.kn x (by omega)) (by omega)
    · intro e
      rw [e] at h1
      omega
  have hO := ordered_ok hP hG (fun p => gt N ((lAt S.comps p).headD 0)) (fun u k v hk hne => by
    have hu := nx_lt hk
    have hv := hG u k v hk
    have key : ∀ x, x < G.length → gt N ((lAt S.comps (gt S.places x)).headD 0) = gt N x := fun x hx => by
      have h1 : x ∈ lAt S.comps (gt S.places x) := (hmem _ (hP x hx) x).2 ⟨hx, rfl⟩
      cases hc : lAt S.comps (gt S.places x) with
      | nil => rw [hc] at h1; cases h1
      | cons y r =>
        have h2 : y ∈ lAt S.comps (gt S.places x) := by rw [hc]; exact List.mem_cons_self ..
        obtain ⟨h3, h4⟩ := (hmem _ (hP x hx) y).1 h2
        exact (hPN y x h3 hx).1 h4
    show gt N _ < gt N _
    rw [key u hu, key v hv]
    have h1 := (hN.down u k v (hz u hu) hk).2
    have h2 : gt N u ≠ gt N v := fun e => hne ((hPN u v hu hv).2 e)
    omega)
  obtain ⟨D, hD⟩ : ∃ D, orderP S.places G S.comps.length = D := ⟨_, rfl⟩
  rw [hD] at hO ⊢
  have hlen : (D.map (lAt S.comps)).length = D.length := List.length_map _
  have hDm : ∀ i (hi : i < D.length), D[i] < S.comps.length := fun i hi => (hO.mem _).1 (List.getElem_mem hi)
  have hin : ∀ i, i < D.length → ∀ x, x ∈ lAt (D.map (lAt S.comps)) i ↔ x < G.length ∧ D[i]? = some (gt S.places x) := fun i hi x => by
    rw [lAt_map hi, hmem _ (hDm i hi), List.getElem?_eq_getElem hi]
    constructor
    · rintro ⟨h1, h2⟩; exact ⟨h1, by rw [h2]⟩
    · rintro ⟨h1, h2⟩; exact ⟨h1, (Option.some.inj h2).symm⟩
  refine ⟨fun i hi x hx => ((hin i (by omega) x).1 hx).1, fun i hi => ?_, fun i hi => ?_, fun i j x hi hj h1 h2 => ?_, fun x hx => ?_, fun i j u k v hi hj hk hu hv => ?_, fun i x y hi hx hy => ?_⟩
  · rw [lAt_map (by omega)]
    exact hGI.asc _ (hDm i (by omega))
  · rw [lAt_map (by omega)]
    exact hne _ (hDm i (by omega))
  · have e1 := ((hin i (by omega) x).1 h1).2
    have e2 := ((hin j (by omega) x).1 h2).2
    have hi' : i < D.length := by omega
    have hj' : j < D.length := by omega
    rw [List.getElem?_eq_getElem hi'] at e1
    rw [List.getElem?_eq_getElem hj'] at e2
    exact nodup_at hO.nd hi' hj' (by rw [Option.some.inj e1, Option.some.inj e2])
  · obtain ⟨i, hi, e⟩ := List.getElem_of_mem ((hO.mem _).2 (hP x hx))
    exact ⟨i, by omega, (hin i hi x).2 ⟨hx, by rw [List.getElem?_eq_getElem hi, e]⟩⟩
  · have hi' : i < D.length := by omega
    have hj' : j < D.length := by omega
    obtain ⟨hu1, hu2⟩ := (hin i hi' u).1 hu
    obtain ⟨hv1, hv2⟩ := (hin j hj' v).1 hv
    rw [List.getElem?_eq_getElem hi'] at hu2
    rw [List.getElem?_eq_getElem hj'] at hv2
    have hu3 := Option.some.inj hu2
    have hv3 := Option.some.inj hv2
    by_cases e : gt S.places v = gt S.places u
    · exact Nat.le_of_eq (nodup_at hO.nd hj' hi' (by rw [hu3, hv3, e]))
    · have hsp : D = D.take i ++ D[i] :: D.drop (i + 1) := by
        rw [← List.drop_eq_getElem_cons hi', List.take_append_drop]
      have h1 := hO.ord _ _ _ hsp u k v hk hu3.symm (by rw [hu3]; exact e)
      obtain ⟨a, ha, e2⟩ := List.getElem_of_mem h1
      rw [List.length_take] at ha
      rw [List.getElem_take] at e2
      have := nodup_at hO.nd (i := a) (j := j) (by omega) hj' (by rw [e2, hv3])
      omega
  · have hi' : i < D.length := by omega
    obtain ⟨hx1, hx2⟩ := (hin i hi' x).1 hx
    rw [hin i hi', hx2, ← hN.iff (hz x hx1)]
    constructor
    · rintro ⟨-, e⟩
      exact (hPN x y hx1 hy).1 (Option.some.inj e)
    · intro e
      exact ⟨hy, by rw [(hPN x y hx1 hy).2 e]⟩
end Go.Proofs.Ytijohaeiiidcpaa
