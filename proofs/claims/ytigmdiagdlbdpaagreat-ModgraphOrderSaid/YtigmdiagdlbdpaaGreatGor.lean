/-
  PLAIN. The heap of numbers as functions on lists (no program).
  PLAIN. Components by their smallest nodes.
  PLAIN. The components in their order: users and waits.
  PLAIN. The heap keeps what it holds.
  PLAIN. The components in their order: the heap is emptied.
  PLAIN. The components in their order: all are listed, each behind those that it leads to.
  PLAIN. The users are not too many.
  PLAIN. What the components are: parts of the nodes, in an order along the edges; two nodes lie together if and only if each reaches the other.
-/
import Derived.Test.YtigmdiagdlbdpaaGreatGra
namespace Go.Proofs.YtigmdiagdlbdpaaGreat
def swL (l : List Nat) (i j : Nat) : List Nat := (l.set i (gt l j)).set j (gt l i)
def upF : Nat → List Nat → Nat → List Nat
  | 0, l, _ => l
  | f + 1, l, j => if j = 0 then l else if gt l j < gt l ((j - 1) / 2) then upF f (swL l ((j - 1) / 2) j) ((j - 1) / 2) else l
def kidF (l : List Nat) (i n : Nat) : Nat := if 2 * i + 1 + 1 < n ∧ gt l (2 * i + 1 + 1) < gt l (2 * i + 1) then 2 * i + 1 + 1 else 2 * i + 1
def downF : Nat → List Nat → Nat → Nat → List Nat
  | 0, l, _, _ => l
  | f + 1, l, i, n => if n ≤ 2 * i + 1 then l else if gt l (kidF l i n) < gt l i then downF f (swL l i (kidF l i n)) (kidF l i n) n else l
def pushL (l : List Nat) (x : Nat) : List Nat := upF (l.length + 1) (l ++ [x]) l.length
def popD (l : List Nat) : List Nat := downF l.length (swL l 0 (l.length - 1)) 0 (l.length - 1)
def popL (l : List Nat) : Nat × List Nat := (gt (popD l) (l.length - 1), (popD l).dropLast)
theorem swL_len (l : List Nat) (i j : Nat) : (swL l i j).length = l.length := by unfold swL; rw [List.length_set, List.length_set]
theorem upF_len : ∀ (f : Nat) (l : List Nat) (j : Nat), (upF f l j).length = l.length
  | 0, l, j => rfl
  | f + 1, l, j => by
    unfold upF
    split
    · rfl
    · split
      · rw [upF_len f, swL_len]
      · rfl
theorem downF_len : ∀ (f : Nat) (l : List Nat) (i n : Nat), (downF f l i n).length = l.length
  | 0, l, i, n => rfl
  | f + 1, l, i, n => by
    unfold downF
    split
    · rfl
    · split
      · rw [downF_len f, swL_len]
      · rfl
theorem ex_heap : popL (pushL (pushL (pushL [] 3) 1) 2) = (1, [2, 3]) := by decide
end Go.Proofs.YtigmdiagdlbdpaaGreat
namespace Go.Proofs.YtigmdiagdlbdpaaGreat
abbrev lAt (L : List (List Nat)) (i : Nat) : List Nat := L.getD i []
theorem lAt_app {L : List (List Nat)} {x : List Nat} {i : Nat} (h : i < L.length) : lAt (L ++ [x]) i = lAt L i := by
  show (L ++ [x]).getD i [] = L.getD i []
  rw [List.getD_eq_getElem?_getD, List.getD_eq_getElem?_getD, List.getElem?_append_left h]
theorem lAt_end {L : List (List Nat)} {x : List Nat} : lAt (L ++ [x]) L.length = x := by
  show (L ++ [x]).getD L.length [] = x
  rw [List.getD_eq_getElem?_getD, List.getElem?_append_right (Nat.le_refl _), Nat.sub_self]; rfl
theorem lAt_set {L : List (List Nat)} {x : List Nat} {p i : Nat} (h : p < L.length) : lAt (L.set p x) i = if i = p then x else lAt L i := by
  show (L.set p x).getD i [] = _
  rw [List.getD_eq_getElem?_getD, List.getElem?_set]
  by_cases e : p = i
  · subst e; simp [h]
  · rw [if_neg e, if_neg (fun e' => e e'.symm)]; show _ = L.getD i []; rw [List.getD_eq_getElem?_getD]

structure GA where
  comps : List (List Nat)
  places : List Nat
  known : List Nat
def newG (s : GA) (n : Nat) : GA := if gt s.known n = 0 then { s with comps := s.comps ++ [[]], known := s.known.set n (s.comps.length + 1) } else s
def putG (s : GA) (k n : Nat) : GA := { s with places := s.places.set k (gt s.known n - 1), comps := s.comps.set (gt s.known n - 1) (lAt s.comps (gt s.known n - 1) ++ [k]) }
def gaK (N : List Nat) (k : Nat) : GA := (List.range k).foldl (fun s x => putG (newG s (gt N x)) x (gt N x)) ⟨[], zeros N.length, zeros (N.length + 1)⟩
theorem gaK_succ (N : List Nat) (k : Nat) : gaK N (k + 1) = putG (newG (gaK N k) (gt N k)) k (gt N k) := by
  unfold gaK
  rw [List.range_succ, List.foldl_append]
  rfl
structure GaI (N : List Nat) (k : Nat) (s : GA) : Prop where
  lp : s.places.length = N.length
  lk : s.known.length = N.length + 1
  cl : s.comps.length ≤ k
  kb : ∀ n, gt s.known n ≤ s.comps.length
  kn : ∀ x, x < k → gt s.known (gt N x) ≠ 0
  inj : ∀ n m, gt s.known n ≠ 0 → gt s.known n = gt s.known m → n = m
  mem : ∀ i, i < s.comps.length → ∀ x, x ∈ lAt s.comps i ↔ x < k ∧ gt s.known (gt N x) = i + 1
  pl : ∀ x, x < k → gt s.places x + 1 = gt s.known (gt N x)
  asc : ∀ i, i < s.comps.length → (lAt s.comps i).Pairwise (· < ·)
/-- Behind newG: the number has its place; the new one is empty yet. -/
structure GaJ (N : List Nat) (k n : Nat) (s : GA) : Prop where
  lp : s.places.length = N.length
  lk : s.known.length = N.length + 1
  cl : s.comps.length ≤ k + 1
  kb : ∀ m, gt s.known m ≤ s.comps.length
  kn : ∀ x, x < k → gt s.known (gt N x) ≠ 0
  kk : gt s.known n ≠ 0
  inj : ∀ n m, gt s.known n ≠ 0 → gt s.known n = gt s.known m → n = m
  mem : ∀ i, i < s.comps.length → ∀ x, x ∈ lAt s.comps i ↔ x < k ∧ gt s.known (gt N x) = i + 1
  pl : ∀ x, x < k → gt s.places x + 1 = gt s.known (gt N x)
  asc : ∀ i, i < s.comps.length → (lAt s.comps i).Pairwise (· < ·)
theorem new_j {N : List Nat} {k : Nat} {s : GA} (h : GaI N k s) (_hk : k < N.length) (hb : gt N k ≤ N.length) : GaJ N k (gt N k) (newG s (gt N k)) := by
  unfold newG
  by_cases h0 : gt s.known (gt N k) = 0
  · rw [if_pos h0]
    have hlk : gt N k < s.known.length := by rw [h.lk]; omega
    have hs : ∀ m, gt (s.known.set (gt N k) (s.comps.length + 1)) m = if m = gt N k then s.comps.length + 1 else gt s.known m := fun m => gt_set hlk _ _
    have hl : (s.comps ++ [[]]).length = s.comps.length + 1 := by simp
    refine ⟨h.lp, by rw [List.length_set]; exact h.lk, by show (s.comps ++ [[]]).length ≤ _; rw [hl]; have := h.cl; omega, fun m => ?_, fun x hx => ?_, ?_, fun n m hn e => ?_, fun i hi x => ?_, fun x hx => ?_, fun i hi => ?_⟩
    · show gt (s.known.set _ _) m ≤ (s.comps ++ [[]]).length
      rw [hs, hl]
      split
      · omega
      · have := h.kb m; omega
    · show gt (s.known.set _ _) _ ≠ 0
      rw [hs]
      split
      · omega
      · exact h.kn x hx
    · show gt (s.known.set _ _) _ ≠ 0
      rw [hs, if_pos rfl]; omega
    · change gt (s.known.set _ _) n ≠ 0 at hn
      change gt (s.known.set _ _) n = gt (s.known.set _ _) m at e
      rw [hs] at hn e
      rw [hs] at e
      by_cases e1 : n = gt N k
      · by_cases e2 : m = gt N k
        · rw [e1, e2]
        · rw [if_pos e1, if_neg e2] at e
          have := h.kb m; omega
      · by_cases e2 : m = gt N k
        · rw [if_neg e1, if_pos e2] at e
          have := h.kb n; omega
        · rw [if_neg e1] at hn
          rw [if_neg e1, if_neg e2] at e
          exact h.inj n m hn e
    · change i < (s.comps ++ [[]]).length at hi
      show x ∈ lAt (s.comps ++ [[]]) i ↔ x < k ∧ gt (s.known.set _ _) _ = i + 1
      rw [hl] at hi
      rw [hs]
      by_cases e1 : i = s.comps.length
      · subst e1
        rw [lAt_end]
        constructor
        · intro hx; cases hx
        · rintro ⟨hx, e⟩
          by_cases e2 : gt N x = gt N k
          · have := h.kn x hx; rw [e2] at this; exact absurd h0 this
          · rw [if_neg e2] at e
            have := h.kb (gt N x); omega
      · rw [lAt_app (by omega), h.mem i (by omega)]
        constructor
        · rintro ⟨hx, e⟩
          refine ⟨hx, ?_⟩
          rw [if_neg (fun e2 => by rw [e2, h0] at e; omega)]; exact e
        · rintro ⟨hx, e⟩
          refine ⟨hx, ?_⟩
          by_cases e2 : gt N x = gt N k
          · rw [if_pos e2] at e; omega
          · rw [if_neg e2] at e; exact e
    · show gt s.places x + 1 = gt (s.known.set _ _) _
      rw [hs]
      by_cases e2 : gt N x = gt N k
      · have := h.kn x hx; rw [e2] at this; exact absurd h0 this
      · rw [if_neg e2]; exact h.pl x hx
    · change i < (s.comps ++ [[]]).length at hi
      show (lAt (s.comps ++ [[]]) i).Pairwise _
      rw [hl] at hi
      by_cases e1 : i = s.comps.length
      · subst e1; rw [lAt_end]; exact List.Pairwise.nil
      · rw [lAt_app (by omega)]; exact h.asc i (by omega)
  · rw [if_neg h0]
    exact ⟨h.lp, h.lk, by have := h.cl; omega, h.kb, h.kn, h0, h.inj, h.mem, h.pl, h.asc⟩
theorem put_i {N : List Nat} {k : Nat} {s : GA} (h : GaJ N k (gt N k) s) (hk : k < N.length) : GaI N (k + 1) (putG s k (gt N k)) := by
  have hp : gt s.known (gt N k) - 1 < s.comps.length := by have := h.kb (gt N k); have := h.kk; omega
  obtain ⟨p, hpe⟩ : ∃ p, gt s.known (gt N k) - 1 = p := ⟨_, rfl⟩
  have hpk : gt s.known (gt N k) = p + 1 := by have := h.kk; omega
  unfold putG
  rw [hpe] at hp ⊢
  have hl : (s.comps.set p (lAt s.comps p ++ [k])).length = s.comps.length := List.length_set
  have hset : ∀ i, lAt (s.comps.set p (lAt s.comps p ++ [k])) i = if i = p then lAt s.comps p ++ [k] else lAt s.comps i := fun i => lAt_set hp
  refine ⟨by rw [List.length_set]; exact h.lp, h.lk, by show (s.comps.set _ _).length ≤ _; rw [hl]; exact h.cl, fun m => by show _ ≤ (s.comps.set _ _).length; rw [hl]; exact h.kb m, fun x hx => ?_, h.inj, fun i hi x => ?_, fun x hx => ?_, fun i hi => ?_⟩
  · by_cases e : x = k
    · rw [e]; exact h.kk
    · exact h.kn x (by omega)
  · change i < (s.comps.set _ _).length at hi
    show x ∈ lAt (s.comps.set _ _) i ↔ x < k + 1 ∧ gt s.known (gt N x) = i + 1
    rw [hl] at hi
    rw [hset]
    by_cases e : i = p
    · subst e
      rw [if_pos rfl, List.mem_append, h.mem i hi, List.mem_singleton]
      constructor
      · rintro (⟨h1, h2⟩ | h1)
        · exact ⟨by omega, h2⟩
        · subst h1; exact ⟨by omega, hpk⟩
      · rintro ⟨h1, h2⟩
        by_cases e : x = k
        · exact .inr e
        · exact .inl ⟨by omega, h2⟩
    · rw [if_neg e, h.mem i hi]
      constructor
      · rintro ⟨h1, h2⟩; exact ⟨by omega, h2⟩
      · rintro ⟨h1, h2⟩
        refine ⟨?_, h2⟩
        by_cases e2 : x = k
        · subst e2; omega
        · omega
  · show gt (s.places.set _ _) x + 1 = _
    rw [gt_set (by rw [h.lp]; exact hk)]
    by_cases e : x = k
    · rw [if_pos e, e, hpk]
    · rw [if_neg e]; exact h.pl x (by omega)
  · change i < (s.comps.set _ _).length at hi
    show (lAt (s.comps.set _ _) i).Pairwise _
    rw [hl] at hi
    rw [hset]
    by_cases e : i = p
    · subst e
      rw [if_pos rfl, List.pairwise_append]
      exact ⟨h.asc i hi, List.pairwise_singleton _ _, fun a ha b hb => by
        rw [List.mem_singleton.1 hb]
        exact ((h.mem i hi a).1 ha).1⟩
    · rw [if_neg e]; exact h.asc i hi
theorem gaK_i {N : List Nat} (hb : ∀ x, gt N x ≤ N.length) : ∀ k, k ≤ N.length → GaI N k (gaK N k)
  | 0, _ => by
    have z : ∀ m x, gt (zeros m) x = 0 := fun m x => zget m x
    exact ⟨List.length_replicate, List.length_replicate, Nat.le_refl _, fun n => by show gt (zeros _) n ≤ _; rw [z]; exact Nat.zero_le _, fun x hx => absurd hx (by omega), fun n m hn _ => absurd (z _ n) hn, fun i hi => absurd hi (by show ¬ i < 0; omega), fun x hx => absurd hx (by omega), fun i hi => absurd hi (by show ¬ i < 0; omega)⟩
  | k + 1, hk => by
    rw [gaK_succ]
    exact put_i (new_j (gaK_i hb k (by omega)) (by omega) (hb k)) (by omega)
end Go.Proofs.YtigmdiagdlbdpaaGreat
namespace Go.Proofs.YtigmdiagdlbdpaaGreat
structure OU where
  users : List (List Nat)
  waits : List Nat
def edS (P : List Nat) (s : OU) (u v : Nat) : OU := if gt P v = gt P u then s else ⟨s.users.set (gt P v) (lAt s.users (gt P v) ++ [gt P u]), s.waits.set (gt P u) (gt s.waits (gt P u) + 1)⟩
/-- The first k edges of node u. -/
def rowS (P : List Nat) (G : List (List Nat)) (u : Nat) (s : OU) (k : Nat) : OU := ((lAt G u).take k).foldl (fun s v => edS P s u v) s
def usK (P : List Nat) (G : List (List Nat)) (m u : Nat) : OU := (List.range u).foldl (fun s x => rowS P G x s (lAt G x).length) ⟨List.replicate m [], zeros m⟩
theorem rowS_succ {P : List Nat} {G : List (List Nat)} {u k v : Nat} {s : OU} (h : nx G u k = some v) : rowS P G u s (k + 1) = edS P (rowS P G u s k) u v := by
  unfold rowS
  have h' : (lAt G u)[k]? = some v := h
  rw [List.take_add_one, h', Option.toList_some, List.foldl_append]
  rfl
theorem rowS_zero {P : List Nat} {G : List (List Nat)} {u : Nat} {s : OU} : rowS P G u s 0 = s := rfl
theorem usK_succ (P : List Nat) (G : List (List Nat)) (m u : Nat) : usK P G m (u + 1) = rowS P G u (usK P G m u) (lAt G u).length := by
  unfold usK
  rw [List.range_succ, List.foldl_append]
  rfl
theorem flat_set : ∀ (U : List (List Nat)) (p c d : Nat), p < U.length → (U.set p (lAt U p ++ [c])).flatten.count d = U.flatten.count d + (if c = d then 1 else 0)
  | [], _, _, _, h => absurd h (Nat.not_lt_zero _)
  | l :: U, 0, c, d, _ => by
    show ((l ++ [c]) :: U).flatten.count d = (l :: U).flatten.count d + _
    rw [List.flatten_cons, List.flatten_cons, List.count_append, List.count_append, List.count_append, List.count_singleton]
    simp only [beq_iff_eq]
    omega
  | l :: U, p + 1, c, d, h => by
    show (l :: U.set p (lAt U p ++ [c])).flatten.count d = (l :: U).flatten.count d + _
    rw [List.flatten_cons, List.flatten_cons, List.count_append, List.count_append, flat_set U p c d (by simpa using h)]
    omega
/-- Edges up to a point: a property of (node, edge). -/
structure OuI (P : List Nat) (m : Nat) (T : Nat → Nat → Prop) (s : OU) : Prop where
  lu : s.users.length = m
  lw : s.waits.length = m
  cnt : ∀ c, gt s.waits c = s.users.flatten.count c
  mem : ∀ x, x < m → ∀ c, c ∈ lAt s.users x ↔ ∃ u v, T u v ∧ gt P u = c ∧ gt P v = x ∧ c ≠ x
theorem ou_zero (P : List Nat) (m : Nat) : OuI P m (fun _ _ => False) ⟨List.replicate m [], zeros m⟩ := by
  refine ⟨List.length_replicate, List.length_replicate, fun c => ?_, fun x hx c => ?_⟩
  · show gt (zeros m) c = _
    rw [zget]
    have : (List.replicate m ([] : List Nat)).flatten = [] := by simp
    show 0 = (List.replicate m ([] : List Nat)).flatten.count c
    rw [this]
    rfl
  · have : lAt (List.replicate m ([] : List Nat)) x = [] := by
      show (List.replicate m ([] : List Nat)).getD x [] = []
      rw [List.getD_eq_getElem?_getD, List.getElem?_replicate]
      split <;> rfl
    show c ∈ lAt (List.replicate m ([] : List Nat)) x ↔ _
    rw [this]
    constructor
    · intro h; cases h
    · rintro ⟨u, v, h, -⟩; exact h.elim
theorem ou_step {P : List Nat} {m : Nat} {T : Nat → Nat → Prop} {s : OU} (h : OuI P m T s) {u v : Nat} (hu : gt P u < m) (hv : gt P v < m) : OuI P m (fun a b => T a b ∨ (a = u ∧ b = v)) (edS P s u v) := by
  unfold edS
  by_cases e : gt P v = gt P u
  · rw [if_pos e]
    refine ⟨h.lu, h.lw, h.cnt, fun x hx c => ?_⟩
    rw [h.mem x hx]
    constructor
    · rintro ⟨a, b, h1, h2⟩; exact ⟨a, b, .inl h1, h2⟩
    · rintro ⟨a, b, h1 | ⟨rfl, rfl⟩, h2, h3, h4⟩
      · exact ⟨a, b, h1, h2, h3, h4⟩
      · exact absurd (by rw [← h2, ← h3, e]) h4
  · rw [if_neg e]
    have hvl : gt P v < s.users.length := by rw [h.lu]; exact hv
    have hul : gt P u < s.waits.length := by rw [h.lw]; exact hu
    refine ⟨by rw [List.length_set]; exact h.lu, by rw [List.length_set]; exact h.lw, fun c => ?_, fun x hx c => ?_⟩
    · show gt (s.waits.set _ _) c = (s.users.set _ _).flatten.count c
      rw [gt_set hul, flat_set _ _ _ _ hvl, ← h.cnt]
      by_cases e2 : c = gt P u
      · rw [if_pos e2, if_pos e2.symm, e2]
      · rw [if_neg e2, if_neg (fun e3 => e2 e3.symm)]; rfl
    · show c ∈ lAt (s.users.set _ _) x ↔ _
      rw [lAt_set hvl]
      by_cases e2 : x = gt P v
      · rw [if_pos e2, List.mem_append, List.mem_singleton, ← e2, h.mem x hx]
        constructor
        · rintro (⟨a, b, h1, h2⟩ | h1)
          · exact ⟨a, b, .inl h1, h2⟩
          · exact ⟨u, v, .inr ⟨rfl, rfl⟩, h1.symm, e2.symm, fun e3 => e (by rw [← e2, ← e3, h1])⟩
        · rintro ⟨a, b, h1 | ⟨rfl, rfl⟩, h2, h3, h4⟩
          · exact .inl ⟨a, b, h1, h2, h3, h4⟩
          · exact .inr h2.symm
      · rw [if_neg e2, h.mem x hx]
        constructor
        · rintro ⟨a, b, h1, h2⟩; exact ⟨a, b, .inl h1, h2⟩
        · rintro ⟨a, b, h1 | ⟨rfl, rfl⟩, h2, h3, h4⟩
          · exact ⟨a, b, h1, h2, h3, h4⟩
          · exact absurd h3.symm e2
theorem OuI.iff {P : List Nat} {m : Nat} {T T' : Nat → Nat → Prop} {s : OU} (h : OuI P m T s) (e : ∀ a b, T a b ↔ T' a b) : OuI P m T' s :=
  ⟨h.lu, h.lw, h.cnt, fun x hx c => by
    rw [h.mem x hx]
    constructor
    · rintro ⟨a, b, h1, h2⟩; exact ⟨a, b, (e a b).1 h1, h2⟩
    · rintro ⟨a, b, h1, h2⟩; exact ⟨a, b, (e a b).2 h1, h2⟩⟩
/-- Edges of the nodes below u, and the first k of u. -/
def Ed (G : List (List Nat)) (u k a b : Nat) : Prop := ∃ j, nx G a j = some b ∧ (a < u ∨ (a = u ∧ j < k))
theorem row_ou {P : List Nat} {G : List (List Nat)} {m u : Nat} {s : OU} (hP : ∀ x, x < G.length → gt P x < m) (hV : ValidG G) (hu : u < G.length) (h : OuI P m (Ed G u 0) s) : ∀ k, k ≤ (lAt G u).length → OuI P m (Ed G u k) (rowS P G u s k)
  | 0, _ => h
  | k + 1, hk => by
    have hkl : k < (lAt G u).length := by omega
    have hx : nx G u k = some ((lAt G u)[k]) := List.getElem?_eq_getElem hkl
    rw [rowS_succ hx]
    refine (ou_step (row_ou hP hV hu h k (by omega)) (hP u hu) (hP _ (hV u k _ hx))).iff (fun a b => ?_)
    constructor
    · rintro (⟨j, h1, h2⟩ | ⟨rfl, rfl⟩)
      · refine ⟨j, h1, ?_⟩
        rcases h2 with h2 | ⟨h2, h3⟩
        · exact .inl h2
        · exact .inr ⟨h2, by omega⟩
      · exact ⟨k, hx, .inr ⟨rfl, by omega⟩⟩
    · rintro ⟨j, h1, h2 | ⟨h2, h3⟩⟩
      · exact .inl ⟨j, h1, .inl h2⟩
      · by_cases e : j = k
        · subst e
          subst h2
          rw [hx] at h1
          exact .inr ⟨rfl, (Option.some.inj h1).symm⟩
        · exact .inl ⟨j, h1, .inr ⟨h2, by omega⟩⟩
theorem us_ou {P : List Nat} {G : List (List Nat)} {m : Nat} (hP : ∀ x, x < G.length → gt P x < m) (hV : ValidG G) : ∀ u, u ≤ G.length → OuI P m (Ed G u 0) (usK P G m u)
  | 0, _ => (ou_zero P m).iff (fun a b => ⟨fun h => h.elim, fun ⟨j, _, h2⟩ => by omega⟩)
  | u + 1, hu => by
    rw [usK_succ]
    refine (row_ou hP hV (by omega) (us_ou hP hV u (by omega)) _ (Nat.le_refl _)).iff (fun a b => ?_)
    constructor
    · rintro ⟨j, h1, h2⟩
      exact ⟨j, h1, .inl (by omega)⟩
    · rintro ⟨j, h1, h2⟩
      refine ⟨j, h1, ?_⟩
      by_cases e : a = u
      · subst e
        refine .inr ⟨rfl, ?_⟩
        have h1' : (lAt G a)[j]? = some b := h1
        exact (List.getElem?_eq_some_iff.1 h1').1
      · exact .inl (by omega)
end Go.Proofs.YtigmdiagdlbdpaaGreat
namespace Go.Proofs.YtigmdiagdlbdpaaGreat
theorem set_count : ∀ (l : List Nat) (i v d : Nat), i < l.length → (l.set i v).count d + (if gt l i = d then 1 else 0) = l.count d + (if v = d then 1 else 0)
  | [], _, _, _, h => absurd h (Nat.not_lt_zero _)
  | x :: l, 0, v, d, _ => by
    show (v :: l).count d + (if x = d then 1 else 0) = (x :: l).count d + _
    rw [List.count_cons, List.count_cons]
    simp only [beq_iff_eq]
    omega
  | x :: l, i + 1, v, d, h => by
    have ih := set_count l i v d (by simpa using h)
    show (x :: l.set i v).count d + (if gt l i = d then 1 else 0) = (x :: l).count d + _
    rw [List.count_cons, List.count_cons]
    omega
theorem swL_count (l : List Nat) {i j : Nat} (hi : i < l.length) (hj : j < l.length) (d : Nat) : (swL l i j).count d = l.count d := by
  unfold swL
  have h1 := set_count l i (gt l j) d hi
  have h2 := set_count (l.set i (gt l j)) j (gt l i) d (by rw [List.length_set]; exact hj)
  have h3 : gt (l.set i (gt l j)) j = gt l j := by
    rw [gt_set hi]
    split
    · rfl
    · rfl
  rw [h3] at h2
  omega
theorem upF_count : ∀ (f : Nat) (l : List Nat) (j : Nat), j < l.length → ∀ d, (upF f l j).count d = l.count d
  | 0, _, _, _, _ => rfl
  | f + 1, l, j, hj, d => by
    unfold upF
    split
    · rfl
    · split
      · rw [upF_count f _ _ (by rw [swL_len]; omega) d, swL_count l (by omega) hj]
      · rfl
theorem downF_count : ∀ (f : Nat) (l : List Nat) (i n : Nat), n ≤ l.length → i < l.length → ∀ d, (downF f l i n).count d = l.count d
  | 0, _, _, _, _, _, _ => rfl
  | f + 1, l, i, n, hn, hi, d => by
    unfold downF
    split
    · rfl
    · have hk : kidF l i n < l.length := by unfold kidF; split <;> omega
      split
      · rw [downF_count f _ _ _ (by rw [swL_len]; exact hn) (by rw [swL_len]; exact hk) d, swL_count l hi hk]
      · rfl
theorem pushL_count (l : List Nat) (x d : Nat) : (pushL l x).count d = l.count d + (if x = d then 1 else 0) := by
  unfold pushL
  rw [upF_count _ _ _ (by simp) d, List.count_append, List.count_singleton]
  simp only [beq_iff_eq]
theorem pushL_len (l : List Nat) (x : Nat) : (pushL l x).length = l.length + 1 := by unfold pushL; rw [upF_len]; simp
theorem popD_len (l : List Nat) : (popD l).length = l.length := by unfold popD; rw [downF_len, swL_len]
theorem popL_len {l : List Nat} : (popL l).2.length = l.length - 1 := by
  show (popD l).dropLast.length = _
  rw [List.length_dropLast, popD_len]
theorem popL_count {l : List Nat} (h : l ≠ []) (d : Nat) : l.count d = (popL l).2.count d + (if (popL l).1 = d then 1 else 0) := by
  have hl : 0 < l.length := List.length_pos_iff.2 h
  have h1 : (popD l).count d = l.count d := by
    unfold popD
    rw [downF_count _ _ _ _ (by rw [swL_len]; omega) (by rw [swL_len]; exact hl) d, swL_count l hl (by omega)]
  have h2 : popD l ≠ [] := fun e => by have := popD_len l; rw [e] at this; simp at this; omega
  have h3 : popD l = (popD l).dropLast ++ [gt (popD l) (l.length - 1)] := by
    conv => lhs; rw [← List.dropLast_concat_getLast h2]
    rw [List.getLast_eq_getElem]
    congr 2
    rw [gt_at (by rw [popD_len]; omega)]
    congr 1
    rw [popD_len]
  show l.count d = (popD l).dropLast.count d + (if gt (popD l) (l.length - 1) = d then 1 else 0)
  rw [← h1]
  conv => lhs; rw [h3]
  rw [List.count_append, List.count_singleton]
  simp only [beq_iff_eq]
end Go.Proofs.YtigmdiagdlbdpaaGreat
namespace Go.Proofs.YtigmdiagdlbdpaaGreat
def dnS (s : List Nat × List Nat) (c : Nat) : List Nat × List Nat := (s.1.set c (gt s.1 c - 1), if gt s.1 c - 1 = 0 then pushL s.2 c else s.2)
structure OW where
  waits : List Nat
  heap : List Nat
  list : List Nat
def dnsS (U : List (List Nat)) (x : Nat) (s : List Nat × List Nat) (k : Nat) : List Nat × List Nat := ((lAt U x).take k).foldl dnS s
def popS (U : List (List Nat)) (s : OW) : OW :=
  ⟨(dnsS U (popL s.heap).1 (s.waits, (popL s.heap).2) (lAt U (popL s.heap).1).length).1, (dnsS U (popL s.heap).1 (s.waits, (popL s.heap).2) (lAt U (popL s.heap).1).length).2, s.list ++ [(popL s.heap).1]⟩
def drainS (U : List (List Nat)) : Nat → OW → OW
  | 0, s => s
  | f + 1, s => if s.heap = [] then s else drainS U f (popS U s)
def frS (W : List Nat) (k : Nat) : List Nat := (List.range k).foldl (fun H p => if gt W p = 0 then pushL H p else H) []
/-- How often c is a user of what is not listed. -/
def restN (U : List (List Nat)) (D : List Nat) (c : Nat) : Nat → Nat
  | 0 => 0
  | k + 1 => restN U D c k + if k ∈ D then 0 else (lAt U k).count c
theorem rest_out {U : List (List Nat)} {D : List Nat} {c x : Nat} : ∀ k, k ≤ x → restN U (D ++ [x]) c k = restN U D c k
  | 0, _ => rfl
  | k + 1, h => by
    show restN U (D ++ [x]) c k + _ = restN U D c k + _
    rw [rest_out k (by omega)]
    have : k ∈ D ++ [x] ↔ k ∈ D := by
      rw [List.mem_append, List.mem_singleton]
      constructor
      · rintro (h1 | h1)
        · exact h1
        · omega
      · exact .inl
    simp only [this]
theorem rest_in {U : List (List Nat)} {D : List Nat} {c x : Nat} (hx : x ∉ D) : ∀ k, x < k → restN U D c k = restN U (D ++ [x]) c k + (lAt U x).count c
  | 0, h => absurd h (Nat.not_lt_zero _)
  | k + 1, h => by
    show restN U D c k + _ = restN U (D ++ [x]) c k + _ + _
    by_cases e : x = k
    · subst e
      rw [rest_out x (Nat.le_refl _), if_neg hx, if_pos (by simp)]
      omega
    · rw [rest_in hx k (by omega)]
      have : k ∈ D ++ [x] ↔ k ∈ D := by
        rw [List.mem_append, List.mem_singleton]
        constructor
        · rintro (h1 | h1)
          · exact h1
          · omega
        · exact .inl
      simp only [this]
      omega
theorem rest_mem {U : List (List Nat)} {D : List Nat} {c y : Nat} (hy : y ∉ D) (hc : c ∈ lAt U y) : ∀ k, y < k → 0 < restN U D c k
  | 0, h => absurd h (Nat.not_lt_zero _)
  | k + 1, h => by
    show 0 < restN U D c k + _
    by_cases e : y = k
    · subst e
      rw [if_neg hy]
      have := List.count_pos_iff.2 hc
      omega
    · have := rest_mem hy hc k (by omega)
      omega
theorem rest_zero {U : List (List Nat)} {D : List Nat} {c : Nat} : ∀ k, 0 < restN U D c k → ∃ y, y < k ∧ y ∉ D ∧ c ∈ lAt U y
  | 0, h => absurd h (Nat.not_lt_zero _)
  | k + 1, h => by
    have h' : 0 < restN U D c k + if k ∈ D then 0 else (lAt U k).count c := h
    by_cases e : 0 < restN U D c k
    · obtain ⟨y, h1, h2⟩ := rest_zero k e
      exact ⟨y, by omega, h2⟩
    · by_cases e2 : k ∈ D
      · rw [if_pos e2] at h'; omega
      · rw [if_neg e2] at h'
        exact ⟨k, by omega, e2, List.count_pos_iff.1 (by omega)⟩
theorem rest_flat (U : List (List Nat)) (c : Nat) : ∀ k, k ≤ U.length → restN U [] c k = (U.take k).flatten.count c
  | 0, _ => by simp [restN]
  | k + 1, h => by
    show restN U [] c k + (if k ∈ [] then 0 else _) = _
    rw [rest_flat U c k (by omega), List.take_succ_eq_append_getElem (by omega), List.flatten_append, List.count_append, if_neg (by simp)]
    congr 1
    have : lAt U k = U[k] := by show U.getD k [] = _; rw [List.getD_eq_getElem?_getD, List.getElem?_eq_getElem (by omega)]; rfl
    rw [this]
    simp
/-- While the users R of the last one are still to be counted down. -/
structure OrI (U : List (List Nat)) (m : Nat) (W H D R : List Nat) : Prop where
  lw : W.length = m
  wc : ∀ c, gt W c = restN U D c m + R.count c
  hz : ∀ c, c < m → (c ∈ D ∨ c ∈ H ↔ gt W c = 0)
  nd : ∀ c, D.count c + H.count c ≤ 1
  bd : ∀ c ∈ D, c < m
  bh : ∀ c ∈ H, c < m
  ord : ∀ A c B, D = A ++ c :: B → ∀ y, y < m → c ∈ lAt U y → y ∈ A
theorem dn_ok {U : List (List Nat)} {m c : Nat} {W H D R : List Nat} (h : OrI U m W H D (c :: R)) (hc : c < m) : OrI U m (dnS (W, H) c).1 (dnS (W, H) c).2 D R := by
  have hcl : c < W.length := by rw [h.lw]; exact hc
  have hw := h.wc c
  rw [List.count_cons_self] at hw
  have hnz : gt W c ≠ 0 := by omega
  have hno := fun e => hnz ((h.hz c hc).1 e)
  have hcH : c ∉ H := fun e => hno (.inr e)
  have hcD : c ∉ D := fun e => hno (.inl e)
  have hset : ∀ d, gt (W.set c (gt W c - 1)) d = if d = c then gt W c - 1 else gt W d := fun d => gt_set hcl _ _
  have hwc : ∀ d, gt (W.set c (gt W c - 1)) d = restN U D d m + R.count d := fun d => by
    rw [hset]
    have h1 := h.wc d
    rw [List.count_cons] at h1
    by_cases e : d = c
    · subst e
      rw [if_pos rfl]
      simp at h1
      omega
    · rw [if_neg e, h1]
      have : (c == d) = false := by simp; exact fun e' => e e'.symm
      rw [this]
      simp
  by_cases h0 : gt W c - 1 = 0
  · have e : dnS (W, H) c = (W.set c (gt W c - 1), pushL H c) := by unfold dnS; rw [if_pos h0]
    rw [e]
    have hmem : ∀ d, d ∈ pushL H c ↔ d ∈ H ∨ d = c := fun d => by
      rw [← List.count_pos_iff, pushL_count, ← List.count_pos_iff]
      by_cases e : c = d
      · subst e; simp
      · rw [if_neg e]
        constructor
        · intro h; exact .inl (by omega)
        · rintro (h | h)
          · omega
          · exact absurd h.symm e
    refine ⟨by rw [List.length_set]; exact h.lw, hwc, fun d hd => ?_, fun d => ?_, h.bd, fun d hd => ?_, h.ord⟩
    · show d ∈ D ∨ d ∈ pushL H c ↔ gt (W.set c (gt W c - 1)) d = 0
      rw [hset, hmem]
      by_cases e2 : d = c
      · rw [if_pos e2]
        exact ⟨fun _ => h0, fun _ => .inr (.inr e2)⟩
      · rw [if_neg e2, ← h.hz d hd]
        constructor
        · rintro (h1 | h1 | h1)
          · exact .inl h1
          · exact .inr h1
          · exact absurd h1 e2
        · rintro (h1 | h1)
          · exact .inl h1
          · exact .inr (.inl h1)
    · show D.count d + (pushL H c).count d ≤ 1
      rw [pushL_count]
      by_cases e2 : c = d
      · subst e2
        rw [if_pos rfl, List.count_eq_zero.2 hcD, List.count_eq_zero.2 hcH]
        exact Nat.le_refl _
      · rw [if_neg e2]; exact h.nd d
    · rcases (hmem d).1 hd with h1 | h1
      · exact h.bh d h1
      · rw [h1]; exact hc
  · have e : dnS (W, H) c = (W.set c (gt W c - 1), H) := by unfold dnS; rw [if_neg h0]
    rw [e]
    refine ⟨by rw [List.length_set]; exact h.lw, hwc, fun d hd => ?_, h.nd, h.bd, h.bh, h.ord⟩
    show d ∈ D ∨ d ∈ H ↔ gt (W.set c (gt W c - 1)) d = 0
    rw [hset]
    by_cases e2 : d = c
    · rw [if_pos e2]
      subst e2
      exact ⟨fun h1 => absurd h1 hno, fun h1 => absurd h1 h0⟩
    · rw [if_neg e2]; exact h.hz d hd
/-- One is taken from the heap. -/
theorem pop_ok {U : List (List Nat)} {m : Nat} {W H D : List Nat} (h : OrI U m W H D []) (hH : H ≠ []) (_hU : ∀ x, x ∉ lAt U x) : (popL H).1 < m ∧ (popL H).1 ∉ D ∧ OrI U m W (popL H).2 (D ++ [(popL H).1]) (lAt U (popL H).1) := by
  obtain ⟨x, hx⟩ : ∃ x, (popL H).1 = x := ⟨_, rfl⟩
  obtain ⟨H', hH'⟩ : ∃ H', (popL H).2 = H' := ⟨_, rfl⟩
  have hc := popL_count hH
  rw [hx, hH'] at *
  have hmem : ∀ d, d ∈ H ↔ d ∈ H' ∨ d = x := fun d => by
    rw [← List.count_pos_iff, hc, ← List.count_pos_iff]
    by_cases e : x = d
    · subst e; simp
    · rw [if_neg e]
      constructor
      · intro h; exact .inl (by omega)
      · rintro (h | h)
        · omega
        · exact absurd h.symm e
  have hxH : x ∈ H := (hmem x).2 (.inr rfl)
  have hxm : x < m := h.bh x hxH
  have hcx : H.count x = H'.count x + 1 := by rw [hc x, if_pos rfl]
  have hxD : x ∉ D := fun e => by have h1 := h.nd x; have h2 := List.count_pos_iff.2 e; omega
  have hxz : gt W x = 0 := (h.hz x hxm).1 (.inr hxH)
  refine ⟨hxm, hxD, h.lw, fun c => ?_, fun c hcm => ?_, fun c => ?_, fun c hcd => ?_, fun c hch => h.bh c ((hmem c).2 (.inl hch)), fun A c B e y hy hcy => ?_⟩
  · rw [h.wc c, rest_in hxD m hxm]
    rfl
  · rw [← h.hz c hcm, hmem, List.mem_append, List.mem_singleton]
    constructor
    · rintro ((h1 | h1) | h1)
      · exact .inl h1
      · exact .inr (.inr h1)
      · exact .inr (.inl h1)
    · rintro (h1 | h1 | h1)
      · exact .inl (.inl h1)
      · exact .inr h1
      · exact .inl (.inr h1)
  · have h1 := h.nd c
    rw [hc c] at h1
    rw [List.count_append, List.count_singleton]
    simp only [beq_iff_eq]
    omega
  · rcases List.mem_append.1 hcd with h1 | h1
    · exact h.bd c h1
    · rw [List.mem_singleton.1 h1]; exact hxm
  · rcases List.eq_nil_or_concat B with rfl | ⟨B', z, rfl⟩
    · have e2 := List.append_inj' (e : D ++ [x] = A ++ [c]) rfl
      have e3 : x = c := List.singleton_inj.1 e2.2
      subst e3
      rw [← e2.1]
      by_cases hyD : y ∈ D
      · exact hyD
      · have h1 := rest_mem hyD hcy m hy
        have h2 := h.wc x
        omega
    · have e2 : D ++ [x] = (A ++ c :: B') ++ [z] := by rw [e]; simp
      have e3 := List.append_inj' e2 rfl
      exact h.ord A c B' e3.1 y hy hcy
end Go.Proofs.YtigmdiagdlbdpaaGreat
namespace Go.Proofs.YtigmdiagdlbdpaaGreat
theorem frS_succ (W : List Nat) (k : Nat) : frS W (k + 1) = if gt W k = 0 then pushL (frS W k) k else frS W k := by
  unfold frS
  rw [List.range_succ, List.foldl_append]
  rfl
theorem frS_count (W : List Nat) (d : Nat) : ∀ k, (frS W k).count d = if d < k ∧ gt W d = 0 then 1 else 0
  | 0 => by
    rw [if_neg (by omega)]
    rfl
  | k + 1 => by
    rw [frS_succ]
    by_cases h0 : gt W k = 0
    · rw [if_pos h0, pushL_count, frS_count W d k]
      by_cases e : k = d
      · subst e
        rw [if_neg (by omega), if_pos rfl, if_pos ⟨by omega, h0⟩]
      · rw [if_neg e]
        by_cases e2 : d < k ∧ gt W d = 0
        · rw [if_pos e2, if_pos ⟨by omega, e2.2⟩]
        · rw [if_neg e2, if_neg (fun e3 => e2 ⟨by omega, e3.2⟩)]
    · rw [if_neg h0, frS_count W d k]
      by_cases e2 : d < k ∧ gt W d = 0
      · rw [if_pos e2, if_pos ⟨by omega, e2.2⟩]
      · rw [if_neg e2, if_neg (fun e3 => by
          by_cases e : d = k
          · subst e; exact h0 e3.2
          · exact e2 ⟨by omega, e3.2⟩)]
theorem frS_mem {W : List Nat} {d k : Nat} : d ∈ frS W k ↔ d < k ∧ gt W d = 0 := by
  rw [← List.count_pos_iff, frS_count]
  split
  · rename_i h; exact ⟨fun _ => h, fun _ => Nat.one_pos⟩
  · rename_i h; exact ⟨fun h1 => absurd h1 (Nat.lt_irrefl 0), fun h1 => absurd h1 h⟩
theorem frS_len (W : List Nat) : ∀ k, (frS W k).length ≤ k
  | 0 => Nat.le_refl _
  | k + 1 => by
    rw [frS_succ]
    have := frS_len W k
    split
    · rw [pushL_len]; omega
    · omega
theorem or_zero {P : List Nat} {m : Nat} {T : Nat → Nat → Prop} {s : OU} (h : OuI P m T s) : OrI s.users m s.waits (frS s.waits m) [] [] := by
  refine ⟨h.lw, fun c => ?_, fun c hc => ?_, fun c => ?_, fun c hc => absurd hc List.not_mem_nil, fun c hc => (frS_mem.1 hc).1, fun A c B e => ?_⟩
  · rw [h.cnt, rest_flat _ _ _ (by rw [h.lu]; exact Nat.le_refl _), List.take_of_length_le (by rw [h.lu]; exact Nat.le_refl _)]
    rfl
  · rw [frS_mem]
    constructor
    · rintro (h1 | h1)
      · exact absurd h1 List.not_mem_nil
      · exact h1.2
    · intro h1; exact .inr ⟨hc, h1⟩
  · rw [frS_count]
    split <;> simp
  · have := congrArg List.length e
    simp at this
theorem dnsS_succ {U : List (List Nat)} {x k c : Nat} {s : List Nat × List Nat} (h : (lAt U x)[k]? = some c) : dnsS U x s (k + 1) = dnS (dnsS U x s k) c := by
  unfold dnsS
  rw [List.take_add_one, h, Option.toList_some, List.foldl_append]
  rfl
theorem dns_ok {U : List (List Nat)} {m x : Nat} {W H D : List Nat} (h : OrI U m W H D (lAt U x)) (hb : ∀ c ∈ lAt U x, c < m) : ∀ k, k ≤ (lAt U x).length → OrI U m (dnsS U x (W, H) k).1 (dnsS U x (W, H) k).2 D ((lAt U x).drop k)
  | 0, _ => h
  | k + 1, hk => by
    have hkl : k < (lAt U x).length := by omega
    have he : (lAt U x)[k]? = some ((lAt U x)[k]) := List.getElem?_eq_getElem hkl
    have ih := dns_ok h hb k (by omega)
    rw [List.drop_eq_getElem_cons hkl] at ih
    rw [dnsS_succ he]
    exact dn_ok ih (hb _ (List.getElem_mem hkl))
theorem popS_ok {U : List (List Nat)} {m : Nat} {s : OW} (h : OrI U m s.waits s.heap s.list []) (hH : s.heap ≠ []) (hU : ∀ x, x ∉ lAt U x) (hb : ∀ x c, c ∈ lAt U x → c < m) : OrI U m (popS U s).waits (popS U s).heap (popS U s).list [] := by
  obtain ⟨-, -, h1⟩ := pop_ok h hH hU
  have h2 := dns_ok h1 (hb _) _ (Nat.le_refl _)
  rw [List.drop_length] at h2
  exact h2
theorem nodup_lt : ∀ (m : Nat) (l : List Nat), l.Nodup → (∀ x ∈ l, x < m) → l.length ≤ m
  | 0, l, _, hb => by
    cases l with
    | nil => exact Nat.le_refl _
    | cons x l => exact absurd (hb x (List.mem_cons_self ..)) (Nat.not_lt_zero _)
  | m + 1, l, h, hb => by
    have h1 := nodup_lt m (l.erase m) (h.erase m) (fun x hx => by
      have h2 := (h.mem_erase_iff).1 hx
      have h3 := hb x h2.2
      have h4 := h2.1
      omega)
    by_cases e : m ∈ l
    · have := List.length_erase_of_mem e; omega
    · rw [List.erase_of_not_mem e] at h1; omega
theorem OrI.dn {U : List (List Nat)} {m : Nat} {W H D R : List Nat} (h : OrI U m W H D R) : (D ++ H).Nodup := by
  rw [List.nodup_iff_count]
  intro c
  rw [List.count_append]
  exact h.nd c
theorem OrI.room {U : List (List Nat)} {m : Nat} {W H D R : List Nat} (h : OrI U m W H D R) : D.length + H.length ≤ m := by
  have := nodup_lt m (D ++ H) h.dn (fun x hx => (List.mem_append.1 hx).elim (h.bd x) (h.bh x))
  rwa [List.length_append] at this
theorem popS_len (U : List (List Nat)) (s : OW) : (popS U s).list.length = s.list.length + 1 := by
  show (s.list ++ [_]).length = _
  simp
theorem drain_ok {U : List (List Nat)} {m : Nat} (hU : ∀ x, x ∉ lAt U x) (hb : ∀ x c, c ∈ lAt U x → c < m) : ∀ (f : Nat) (s : OW), OrI U m s.waits s.heap s.list [] → m ≤ s.list.length + f → OrI U m (drainS U f s).waits (drainS U f s).heap (drainS U f s).list [] ∧ (drainS U f s).heap = []
  | 0, s, h, hf => by
    refine ⟨h, ?_⟩
    have := h.room
    show s.heap = []
    exact List.length_eq_zero_iff.1 (by omega)
  | f + 1, s, h, hf => by
    unfold drainS
    by_cases e : s.heap = []
    · rw [if_pos e]; exact ⟨h, e⟩
    · rw [if_neg e]
      exact drain_ok hU hb f (popS U s) (popS_ok h e hU hb) (by rw [popS_len]; omega)
/-- Where a rank falls along the edges, all are listed. -/
theorem all_listed {U : List (List Nat)} {m : Nat} {W D : List Nat} (h : OrI U m W [] D []) (rank : Nat → Nat) (hr : ∀ x c, x < m → c ∈ lAt U x → rank x < rank c) : ∀ (r c : Nat), c < m → rank c ≤ r → c ∈ D
  | r, c, hc, hrc => by
    by_cases hz : gt W c = 0
    · rcases (h.hz c hc).2 hz with h1 | h1
      · exact h1
      · exact absurd h1 List.not_mem_nil
    · have h1 := h.wc c
      have h2 : 0 < restN U D c m := by
        have : ([] : List Nat).count c = 0 := rfl
        omega
      obtain ⟨y, hy, hyD, hcy⟩ := rest_zero m h2
      have h3 := hr y c hy hcy
      match r, hrc with
      | 0, hrc => omega
      | r + 1, hrc => exact absurd (all_listed h rank hr r y hy (by omega)) hyD
/-- The order in which the components come, as places. -/
def orderP (P : List Nat) (G : List (List Nat)) (m : Nat) : List Nat := (drainS (usK P G m G.length).users m ⟨(usK P G m G.length).waits, frS (usK P G m G.length).waits m, []⟩).list
/-- What the order is. -/
structure Ordered (P : List Nat) (G : List (List Nat)) (m : Nat) (D : List Nat) : Prop where
  nd : D.Nodup
  mem : ∀ c, c ∈ D ↔ c < m
  ord : ∀ A c B, D = A ++ c :: B → ∀ u k v, nx G u k = some v → gt P u = c → gt P v ≠ c → gt P v ∈ A
theorem ordered_ok {P : List Nat} {G : List (List Nat)} {m : Nat} (hP : ∀ x, x < G.length → gt P x < m) (hV : ValidG G) (rank : Nat → Nat) (hr : ∀ u k v, nx G u k = some v → gt P u ≠ gt P v → rank (gt P v) < rank (gt P u)) : Ordered P G m (orderP P G m) := by
  have h := us_ou hP hV G.length (Nat.le_refl _)
  have hE : ∀ u v, Ed G G.length 0 u v → ∃ j, nx G u j = some v := fun u v ⟨j, h1, _⟩ => ⟨j, h1⟩
  obtain ⟨s, hs⟩ : ∃ s, usK P G m G.length = s := ⟨_, rfl⟩
  unfold orderP
  rw [hs] at h ⊢
  have hlow : ∀ x, ¬ x < m → lAt s.users x = [] := fun x hx => by
    show s.users.getD x [] = []
    rw [List.getD_eq_getElem?_getD, List.getElem?_eq_none (by rw [h.lu]; omega)]
    rfl
  have hU : ∀ x, x ∉ lAt s.users x := fun x hx => by
    by_cases hxm : x < m
    · obtain ⟨u, v, -, -, -, h4⟩ := (h.mem x hxm x).1 hx
      exact h4 rfl
    · rw [hlow x hxm] at hx; cases hx
  have hb : ∀ x c, c ∈ lAt s.users x → c < m := fun x c hc => by
    by_cases hxm : x < m
    · obtain ⟨u, v, h1, h2, -, -⟩ := (h.mem x hxm c).1 hc
      obtain ⟨j, hj⟩ := hE u v h1
      rw [← h2]
      exact hP u (nx_lt hj)
    · rw [hlow x hxm] at hc; cases hc
  obtain ⟨g1, g2⟩ := drain_ok hU hb m ⟨s.waits, frS s.waits m, []⟩ (or_zero h) (by show m ≤ 0 + m; omega)
  obtain ⟨D, hD⟩ : ∃ D, drainS s.users m ⟨s.waits, frS s.waits m, []⟩ = D := ⟨_, rfl⟩
  rw [hD] at g1 g2 ⊢
  rw [g2] at g1
  have hnd := g1.dn
  rw [List.append_nil] at hnd
  refine ⟨hnd, fun c => ⟨g1.bd c, fun hc => all_listed g1 rank (fun x c hx hc => ?_) _ c hc (Nat.le_refl _)⟩, fun A c B e u k v hk hu hv => ?_⟩
  · obtain ⟨u, v, h1, h2, h3, h4⟩ := (h.mem x hx c).1 hc
    obtain ⟨j, hj⟩ := hE u v h1
    rw [← h2, ← h3]
    exact hr u j v hj (by rw [h2, h3]; exact h4)
  · have hvm : gt P v < m := hP v (hV u k v hk)
    refine g1.ord A c B e (gt P v) hvm ((h.mem _ hvm c).2 ⟨u, v, ⟨k, hk, .inl (nx_lt hk)⟩, hu, rfl, fun e => hv e.symm⟩)
end Go.Proofs.YtigmdiagdlbdpaaGreat
namespace Go.Proofs.YtigmdiagdlbdpaaGreat
def Sm (b : Nat) (s : OU) : Prop := ∀ x, (lAt s.users x).length ≤ b ∧ gt s.waits x ≤ b
theorem ed_small {P : List Nat} {s : OU} {b u v : Nat} (hv : gt P v < s.users.length) (hu : gt P u < s.waits.length) (h : Sm b s) : Sm (b + 1) (edS P s u v) := by
  unfold edS
  by_cases e : gt P v = gt P u
  · rw [if_pos e]
    exact fun x => ⟨by have := (h x).1; omega, by have := (h x).2; omega⟩
  · rw [if_neg e]
    intro x
    constructor
    · show (lAt (s.users.set _ _) x).length ≤ _
      rw [lAt_set hv]
      split
      · rw [List.length_append]
        have := (h (gt P v)).1
        show _ + 1 ≤ _
        omega
      · have := (h x).1; omega
    · show gt (s.waits.set _ _) x ≤ _
      rw [gt_set hu]
      split
      · have := (h (gt P u)).2; omega
      · have := (h x).2; omega
theorem row_small {P : List Nat} {G : List (List Nat)} {m u b : Nat} {s : OU} (hP : ∀ x, x < G.length → gt P x < m) (hV : ValidG G) (hu : u < G.length) (h : OuI P m (Ed G u 0) s) (hs : Sm b s) : ∀ k, k ≤ (lAt G u).length → Sm (b + k) (rowS P G u s k)
  | 0, _ => hs
  | k + 1, hk => by
    have hkl : k < (lAt G u).length := by omega
    have hx : nx G u k = some ((lAt G u)[k]) := List.getElem?_eq_getElem hkl
    have ho := row_ou hP hV hu h k (by omega)
    rw [rowS_succ hx]
    exact ed_small (by rw [ho.lu]; exact hP _ (hV u k _ hx)) (by rw [ho.lw]; exact hP u hu) (row_small hP hV hu h hs k (by omega))
theorem us_small {P : List Nat} {G : List (List Nat)} {m d : Nat} (hP : ∀ x, x < G.length → gt P x < m) (hV : ValidG G) (hD : ∀ u, degG G u ≤ d) : ∀ u, u ≤ G.length → Sm (u * d) (usK P G m u)
  | 0, _ => fun x => by
    constructor
    · have : lAt (List.replicate m ([] : List Nat)) x = [] := by
        show (List.replicate m ([] : List Nat)).getD x [] = []
        rw [List.getD_eq_getElem?_getD, List.getElem?_replicate]
        split <;> rfl
      show (lAt (List.replicate m ([] : List Nat)) x).length ≤ _
      rw [this]
      exact Nat.zero_le _
    · show gt (zeros m) x ≤ _
      rw [zget]
      exact Nat.zero_le _
  | u + 1, hu => by
    rw [usK_succ]
    have h1 := row_small hP hV (by omega) (us_ou hP hV u (by omega)) (us_small hP hV hD u (by omega)) _ (Nat.le_refl _)
    have h2 : (lAt G u).length ≤ d := hD u
    intro x
    have h3 := h1 x
    rw [Nat.succ_mul]
    exact ⟨by omega, by omega⟩
/-- The bounds at every point of the loops. -/
theorem row_bound {P : List Nat} {G : List (List Nat)} {m u k : Nat} (hP : ∀ x, x < G.length → gt P x < m) (hV : ValidG G) (hn : G.length ≤ 1000000) (hD : ∀ u, degG G u ≤ 1000000) (hu : u < G.length) (hk : k ≤ (lAt G u).length) : Sm 1000000000000 (rowS P G u (usK P G m u) k) := by
  have h1 := row_small hP hV hu (us_ou hP hV u (by omega)) (us_small hP hV hD u (by omega)) k hk
  have h2 : u * 1000000 + k ≤ 1000000000000 := by have h3 : (lAt G u).length ≤ 1000000 := hD u; omega
  exact fun x => ⟨by have := (h1 x).1; omega, by have := (h1 x).2; omega⟩
end Go.Proofs.YtigmdiagdlbdpaaGreat
namespace Go.Proofs.YtigmdiagdlbdpaaGreat
/-- A division of the nodes into ascending parts. -/
structure Parts (G : List (List Nat)) (C : List (List Nat)) : Prop where
  lt : ∀ i, i < C.length → ∀ x ∈ lAt C i, x < G.length
  asc : ∀ i, i < C.length → (lAt C i).Pairwise (· < ·)
  ne : ∀ i, i < C.length → lAt C i ≠ []
  dis : ∀ i j x, i < C.length → j < C.length → x ∈ lAt C i → x ∈ lAt C j → i = j
  all : ∀ x, x < G.length → ∃ i, i < C.length ∧ x ∈ lAt C i
  edge : ∀ i j u k v, i < C.length → j < C.length → nx G u k = some v → u ∈ lAt C i → v ∈ lAt C j → j ≤ i
  tog : ∀ i x y, i < C.length → x ∈ lAt C i → y < G.length → (y ∈ lAt C i ↔ Re G x y ∧ Re G y x)
def ordN (N : List Nat) (G : List (List Nat)) : List (List Nat) := (orderP (gaK N N.length).places G (gaK N N.length).comps.length).map (lAt (gaK N N.length).comps)
def compsG (G : List (List Nat)) : List (List Nat) := ordN (numbersS G (List.range G.length)) G
theorem lAt_map {D : List Nat} {L : List (List Nat)} {i : Nat} (h : i < D.length) : lAt (D.map (lAt L)) i = lAt L D[i] := by
  show (D.map (lAt L)).getD i [] = _
  rw [List.getD_eq_getElem?_getD, List.getElem?_map, List.getElem?_eq_getElem h]
  rfl
theorem nodup_at {D : List Nat} (h : D.Nodup) {i j : Nat} (hi : i < D.length) (hj : j < D.length) (e : D[i] = D[j]) : i = j := by
  have h' := List.pairwise_iff_getElem.1 h
  rcases Nat.lt_trichotomy i j with h1 | h1 | h1
  · exact absurd e (h' i j hi hj h1)
  · exact h1
  · exact absurd e.symm (h' j i hj hi h1)
theorem gaK_ne {N : List Nat} (hb : ∀ x, gt N x ≤ N.length) : ∀ k, k ≤ N.length → ∀ i, i < (gaK N k).comps.length → lAt (gaK N k).comps i ≠ []
  | 0, _ => fun i hi => absurd hi (Nat.not_lt_zero _)
  | k + 1, hk => fun i hi => by
    have ih := gaK_ne hb k (by omega)
    have h := gaK_i hb k (by omega)
    rw [gaK_succ] at hi ⊢
    obtain ⟨s, hs⟩ : ∃ s, gaK N k = s := ⟨_, rfl⟩
    rw [hs] at ih h hi ⊢
    have hn := hb k
    by_cases h0 : gt s.known (gt N k) = 0
    · have e : newG s (gt N k) = { s with comps := s.comps ++ [[]], known := s.known.set (gt N k) (s.comps.length + 1) } := by unfold newG; rw [if_pos h0]
      have e2 : gt (s.known.set (gt N k) (s.comps.length + 1)) (gt N k) = s.comps.length + 1 := by rw [gt_set (by rw [h.lk]; omega), if_pos rfl]
      rw [e] at hi ⊢
      unfold putG at hi ⊢
      simp only [e2, Nat.add_sub_cancel] at hi ⊢
      rw [List.length_set, List.length_append, List.length_singleton] at hi
      rw [lAt_set (by rw [List.length_append, List.length_singleton]; omega)]
      split
      · simp
      · rw [lAt_app (by omega)]
        exact ih i (by omega)
    · have e : newG s (gt N k) = s := by unfold newG; rw [if_neg h0]
      have h2 := h.kb (gt N k)
      rw [e] at hi ⊢
      unfold putG at hi ⊢
      simp only at hi ⊢
      rw [List.length_set] at hi
      rw [lAt_set (by omega)]
      split
      · simp
      · exact ih i hi
theorem comps_parts {G : List (List Nat)} (hG : ValidG G) : Parts G (compsG G) := by
  have hN := nums_ok hG (List.range G.length) (fun v hv => List.mem_range.1 hv)
  unfold compsG
  obtain ⟨N, hNe⟩ : ∃ N, numbersS G (List.range G.length) = N := ⟨_, rfl⟩
  rw [hNe] at hN ⊢
  have hb : ∀ x, gt N x ≤ N.length := fun x => by rw [hN.len]; exact hN.bnd x
  have hGI := gaK_i hb N.length (Nat.le_refl _)
  unfold ordN
  obtain ⟨S, hS⟩ : ∃ S, gaK N N.length = S := ⟨_, rfl⟩
  rw [hS] at hGI ⊢
  have hne : ∀ i, i < S.comps.length → lAt S.comps i ≠ [] := by have := gaK_ne hb N.length (Nat.le_refl _); rwa [hS] at this
  have hl := hN.len
  have hz : ∀ x, x < G.length → gt N x ≠ 0 := fun x hx => hN.all x (List.mem_range.2 hx)
  -- a node lies in the component of its place
  have hmem : ∀ i, i < S.comps.length → ∀ x, x ∈ lAt S.comps i ↔ x < G.length ∧ gt S.places x = i := fun i hi x => by
    rw [hGI.mem i hi, ← hl]
    constructor
    · rintro ⟨h1, h2⟩
      have := hGI.pl x h1
      exact ⟨h1, by omega⟩
    · rintro ⟨h1, h2⟩
      have := hGI.pl x h1
      exact ⟨h1, by omega⟩
  have hP : ∀ x, x < G.length → gt S.places x < S.comps.length := fun x hx => by
    have h1 := hGI.pl x (by omega)
    have h2 := hGI.kb (gt N x)
    omega
  have hPN : ∀ x y, x < G.length → y < G.length → (gt S.places x = gt S.places y ↔ gt N x = gt N y) := fun x y hx hy => by
    have h1 := hGI.pl x (by omega)
    have h2 := hGI.pl y (by omega)
    constructor
    · intro e
      exact hGI.inj _ _ (hGI.kn x (by omega)) (by omega)
    · intro e
      rw [e] at h1
      omega
  have hO := ordered_ok hP hG (fun p => gt N ((lAt S.comps p).headD 0)) (fun u k v hk hne => by
    have hu := nx_lt hk
    have hv := hG u k v hk
    have key : ∀ x, x < G.length → gt N ((lAt S.comps (gt S.places x)).headD 0) = gt N x := fun x hx => by
      have h1 : x ∈ lAt S.comps (gt S.places x) := (hmem _ (hP x hx) x).2 ⟨hx, rfl⟩
      cases hc : lAt S.comps (gt S.places x) with
      | nil => rw [hc] at h1; cases h1
      | cons y r =>
        have h2 : y ∈ lAt S.comps (gt S.places x) := by rw [hc]; exact List.mem_cons_self ..
        obtain ⟨h3, h4⟩ := (hmem _ (hP x hx) y).1 h2
        exact (hPN y x h3 hx).1 h4
    show gt N _ < gt N _
    rw [key u hu, key v hv]
    have h1 := (hN.down u k v (hz u hu) hk).2
    have h2 : gt N u ≠ gt N v := fun e => hne ((hPN u v hu hv).2 e)
    omega)
  obtain ⟨D, hD⟩ : ∃ D, orderP S.places G S.comps.length = D := ⟨_, rfl⟩
  rw [hD] at hO ⊢
  have hlen : (D.map (lAt S.comps)).length = D.length := List.length_map _
  have hDm : ∀ i (hi : i < D.length), D[i] < S.comps.length := fun i hi => (hO.mem _).1 (List.getElem_mem hi)
  have hin : ∀ i, i < D.length → ∀ x, x ∈ lAt (D.map (lAt S.comps)) i ↔ x < G.length ∧ D[i]? = some (gt S.places x) := fun i hi x => by
    rw [lAt_map hi, hmem _ (hDm i hi), List.getElem?_eq_getElem hi]
    constructor
    · rintro ⟨h1, h2⟩; exact ⟨h1, by rw [h2]⟩
    · rintro ⟨h1, h2⟩; exact ⟨h1, (Option.some.inj h2).symm⟩
  refine ⟨fun i hi x hx => ((hin i (by omega) x).1 hx).1, fun i hi => ?_, fun i hi => ?_, fun i j x hi hj h1 h2 => ?_, fun x hx => ?_, fun i j u k v hi hj hk hu hv => ?_, fun i x y hi hx hy => ?_⟩
  · rw [lAt_map (by omega)]
    exact hGI.asc _ (hDm i (by omega))
  · rw [lAt_map (by omega)]
    exact hne _ (hDm i (by omega))
  · have e1 := ((hin i (by omega) x).1 h1).2
    have e2 := ((hin j (by omega) x).1 h2).2
    have hi' : i < D.length := by omega
    have hj' : j < D.length := by omega
    rw [List.getElem?_eq_getElem hi'] at e1
    rw [List.getElem?_eq_getElem hj'] at e2
    exact nodup_at hO.nd hi' hj' (by rw [Option.some.inj e1, Option.some.inj e2])
  · obtain ⟨i, hi, e⟩ := List.getElem_of_mem ((hO.mem _).2 (hP x hx))
    exact ⟨i, by omega, (hin i hi x).2 ⟨hx, by rw [List.getElem?_eq_getElem hi, e]⟩⟩
  · have hi' : i < D.length := by omega
    have hj' : j < D.length := by omega
    obtain ⟨hu1, hu2⟩ := (hin i hi' u).1 hu
    obtain ⟨hv1, hv2⟩ := (hin j hj' v).1 hv
    rw [List.getElem?_eq_getElem hi'] at hu2
    rw [List.getElem?_eq_getElem hj'] at hv2
    have hu3 := Option.some.inj hu2
    have hv3 := Option.some.inj hv2
    by_cases e : gt S.places v = gt S.places u
    · exact Nat.le_of_eq (nodup_at hO.nd hj' hi' (by rw [hu3, hv3, e]))
    · have hsp : D = D.take i ++ D[i] :: D.drop (i + 1) := by
        rw [← List.drop_eq_getElem_cons hi', List.take_append_drop]
      have h1 := hO.ord _ _ _ hsp u k v hk hu3.symm (by rw [hu3]; exact e)
      obtain ⟨a, ha, e2⟩ := List.getElem_of_mem h1
      rw [List.length_take] at ha
      rw [List.getElem_take] at e2
      have := nodup_at hO.nd (i := a) (j := j) (by omega) hj' (by rw [e2, hv3])
      omega
  · have hi' : i < D.length := by omega
    obtain ⟨hx1, hx2⟩ := (hin i hi' x).1 hx
    rw [hin i hi', hx2, ← hN.iff (hz x hx1)]
    constructor
    · rintro ⟨-, e⟩
      exact (hPN x y hx1 hy).1 (Option.some.inj e)
    · intro e
      exact ⟨hy, by rw [(hPN x y hx1 hy).2 e]⟩
end Go.Proofs.YtigmdiagdlbdpaaGreat
