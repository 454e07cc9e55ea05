/-
  PLAIN. The components in their order: users and waits.
-/
import Derived.Test.YtijohaeiiidcpaaGga
namespace Go.Proofs.Ytijohaeiiidcpaa
structure OU where
  users : List (List Nat)
  waits : List Nat
def edS (P : List Nat) (s : OU) (u v : Nat) : OU := if gt P v = gt P u then s else ⟨s.users.set (gt P v) (lAt s.users (gt P v) ++ [gt P u]), s.waits.set (gt P u) (gt s.waits (gt P u) + 1)⟩
/-- The first k edges of node u. -/
def rowS (P : List Nat) (G : List (List Nat)) (u : Nat) (s : OU) (k : Nat) : OU := ((lAt G u).take k).foldl (fun s v => edS P s u v) s
def usK (P : List Nat) (G : List (List Nat)) (m u : Nat) : OU := (List.range u).foldl (fun s x => rowS P G x s (lAt G x).length) ⟨List.replicate m [], zeros m⟩
theorem rowS_succ {P : List Nat} {G : List (List Nat)} {u k v : Nat} {s : OU} (h : nx G u k = some v) : rowS P G u s (k + 1) = edS P (rowS P G u s k) u v := by
  unfold rowS
  have h' : (lAt G u)[k]? = some v := h
  rw [List.take_add_one, h', Option.toList_some, List.foldl_append]
  rfl
theorem rowS_zero {P : List Nat} {G : List (List Nat)} {u : Nat} {s : OU} : rowS P G u s 0 = s := rfl
theorem usK_succ (P : List Nat) (G : List (List Nat)) (m u : Nat) : usK P G m (u + 1) = rowS P G u (usK P G m u) (lAt G u).length := by
  unfold usK
  rw [List.range_succ, List.foldl_append]
  rfl
theorem flat_set : ∀ (U : List (List Nat)) (p c d : Nat), p < U.length → (U.set p (lAt U p ++ [c])).flatten.count d = U.flatten.count d + (if c = d then 1 else 0)
  | [], _, _, _, h => absurd h (Nat.not_lt_zero _)
  | l :: U, 0, c, d, _ => by
    show ((l ++ [c]) :: U).flatten.count d = (l :: U).flatten.count d + _
    rw [List.flatten_cons, List.flatten_cons, List.count_append, List.count_append, List.count_append, List.count_singleton]
    simp only [beq_iff_eq]
    omega
  | l :: U, p + 1, c, d, h => by
    show (l :: U.set p (lAt U p ++ [c])).flatten.count d = (l :: U).flatten.count d + _
    rw [List.flatten_cons, List.flatten_cons, List.count_append, List.count_append, flat_set U p c d (by simpa using h)]
    omega
/-- Edges up to a point: a property of (node, edge). -/
structure OuI (P : List Nat) (m : Nat) (T : Nat → Nat → Prop) (s : OU) : Prop where
  lu : s.users.length = m
  lw : s.waits.length = m
  cnt : ∀ c, gt s.waits c = s.users.flatten.count c
  mem : ∀ x, x < m → ∀ c, c ∈ lAt s.users x ↔ ∃ u v, T u v ∧ gt P u = c ∧ gt P v = x ∧ c ≠ x
theorem ou_zero (P : List Nat) (m : Nat) : OuI P m (fun _ _ => False) ⟨List.replicate m [], zeros m⟩ := by
  refine ⟨List.length_replicate, List.length_replicate, fun c => ?_, fun x hx c => ?_⟩
  · show gt (zeros m) c = _
    rw [zget]
    have : (List.replicate m ([] : List Nat)).flatten = [] := by simp
    show 0 = (List.replicate m ([] : List Nat)).flatten.count c
    rw [this]
    rfl
  · have : lAt (List.replicate m ([] : List Nat)) x = [] := by
      show (List.replicate m ([] : List Nat)).getD x [] = []
      rw [List.getD_eq_getElem?_getD, List.getElem?_replicate]
      split <;> rfl
    show c ∈ lAt (List.replicate m ([] : List Nat)) x ↔ _
    rw [this]
    constructor
    · intro h; cases h
    · rintro ⟨u, v, h, -⟩; exact h.elim
theorem ou_step {P : List Nat} {m : Nat} {T : Nat → Nat → Prop} {s : OU} (h : OuI P m T s) {u v : Nat} (hu : gt P u < m) (hv : gt P v < m) : OuI P m (fun a b => T a b ∨ (a = u ∧ b = v)) (edS P s u v) := by
  unfold edS
  by_cases e : gt P v = gt P u
  · rw [if_pos e]
    refine ⟨h.lu, h.lw, h.cnt, fun x hx c => ?_⟩
    rw [h.mem x hx]
    constructor
    · rintro ⟨a, b, h1, h2⟩; exact ⟨a, b, .inl h1, h2⟩
    · rintro ⟨a, b, h1 | ⟨rfl, rfl⟩, h2, h3, h4⟩
      · exact ⟨a, b, h1, h2, h3, h4⟩
      · exact absurd (by rw [← h2, ← h3, e]) h4
  · rw [if_neg e]
    have hvl : gt P v < s.users.length := by rw [h.lu]; exact hv
    have hul : gt P u < s.waits.length := by rw [h.lw]; exact hu
    refine ⟨by rw [List.length_set]; exact h.lu, by rw [List.length_set]; exact h.lw, fun c => ?_, fun x hx c => ?_⟩
    · show gt (s.waits.set _ _) c = (s.users.set _ _).flatten.count c
      rw [gt_set hul, flat_set _ _ _ _ hvl, ← h.cnt]
      by_cases e2 : c = gt P u
      · rw [if_pos e2, if_pos e2.symm, e2]
      · rw [if_neg e2, if_neg (fun e3 => e2 e3.symm)]; rfl
    · show c ∈ lAt (s.users.set _ _) x ↔ _
      rw [lAt_set hvl]
      by_cases e2 : x = gt P v
      · rw [if_pos e2, List.mem_append, List.mem_singleton, ← e2, h.mem x hx]
        constructor
        · rintro (⟨a, b, h1, h2⟩ | h1)
          · exact ⟨a, b, .inl h1, h2⟩
          · exact ⟨u, v, .inr ⟨rfl, rfl⟩, h1.symm, e2.symm, fun e3 => e (by rw [← e2, ← e3, h1])⟩
        · rintro ⟨a, b, h1 | ⟨rfl, rfl⟩, h2, h3, h4⟩
          · exact .inl ⟨a, b, h1, h2, h3, h4⟩
          · exact .inr h2.symm
      · rw [if_neg e2, h.mem x hx]
        constructor
        · rintro ⟨a, b, h1, h2⟩; exact ⟨a, b, .inl h1, h2⟩
        · rintro ⟨a, b, h1 | ⟨rfl, rfl⟩, h2, h3, h4⟩
          · exact ⟨a, b, h1, h2, h3, h4⟩
          · exact absurd h3.symm e2
theorem OuI.iff {P : List Nat} {m : Nat} {T T' : Nat → Nat → Prop} {s : OU} (h : OuI P m T s) (e : ∀ a b, T a b ↔ T' a b) : OuI P m T' s :=
  ⟨h.lu, h.lw, h.cnt, fun x hx c => by
    rw [h.mem x hx]
    constructor
    · rintro ⟨a, b, h1, h2⟩; exact ⟨a, b, (e a b).1 h1, h2⟩
    · rintro ⟨a, b, h1, h2⟩; exact ⟨a, b, (e a b).2 h1, h2⟩⟩
/-- Edges of the nodes below u, and the first k of u. -/
def Ed (G : List (List Nat)) (u k a b : Nat) : Prop := ∃ j, nx G a j = some b ∧ (a < u ∨ (a = u ∧ j < k))
theorem row_ou {P : List Nat} {G : List (List Nat)} {m u : Nat} {s : OU} (hP : ∀ x, x < G.length → gt P x < m) (hV : ValidG G) (hu : u < G.length) (h : OuI P m (Ed G u 0) s) : ∀ k, k ≤ (lAt G u).length → OuI P m (Ed G u k) (rowS P G u s k)
  | 0, _ => h
  | k + 1, hk => by
    have hkl : k < (lAt G u).length := by omega
    have hx : nx G u k = some ((lAt G u)[k]) := List.getElem?_eq_getElem hkl
    rw [rowS_succ hx]
    refine (ou_step (row_ou hP hV hu h k (by omega)) (hP u hu) (hP _ (hV u k _ hx))).iff (fun a b => ?_)
    constructor
    · rintro (⟨j, h1, h2⟩ | ⟨rfl, rfl⟩)
      · refine ⟨j, h1, ?_⟩
        rcases h2 with h2 | ⟨h2, h3⟩
        · exact .inl h2
        · exact .inr ⟨h2, by omega⟩
      · exact ⟨k, hx, .inr ⟨rfl, by omega⟩⟩
    · rintro ⟨j, h1, h2 | ⟨h2, h3⟩⟩
      · exact .inl ⟨j, h1, .inl h2⟩
      · by_cases e : j = k
        · subst e
          subst h2
          rw [hx] at h1
          exact .inr ⟨rfl, (Option.some.inj h1).symm⟩
        · exact .inl ⟨j, h1, .inr ⟨h2, by omega⟩⟩
theorem us_ou {P : List Nat} {G : List (List Nat)} {m : Nat} (hP : ∀ x, x < G.length → gt P x < m) (hV : ValidG G) : ∀ u, u ≤ G.length → OuI P m (Ed G u 0) (usK P G m u)
  | 0, _ => (ou_zero P m).iff (fun a b => ⟨fun h => h.elim, fun ⟨j, _, h2⟩ => by omega⟩)
  | u + 1, hu => by
    rw [usK_succ]
    refine (row_ou hP hV (by omega) (us_ou hP hV u (by omega)) _ (Nat.le_refl _)).iff (fun a b => ?_)
    constructor
    · rintro ⟨j, h1, h2⟩
      exact ⟨j, h1, .inl (by omega)⟩
    · rintro ⟨j, h1, h2⟩
      refine ⟨j, h1, ?_⟩
      by_cases e : a = u
      · subst e
        refine .inr ⟨rfl, ?_⟩
        have h1' : (lAt G a)[j]? = some b := h1
        exact (List.getElem?_eq_some_iff.1 h1').1
      · exact .inl (by omega)
end Go.Proofs.Ytijohaeiiidcpaa
