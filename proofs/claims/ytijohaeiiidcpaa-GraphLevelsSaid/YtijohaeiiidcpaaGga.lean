/-
  PLAIN. Components by their smallest nodes.
-/
import Derived.Test.YtijohaeiiidcpaaGra4
namespace Go.Proofs.Ytijohaeiiidcpaa
abbrev lAt (L : List (List Nat)) (i : Nat) : List Nat := L.getD i []
theorem lAt_app {L : List (List Nat)} {x : List Nat} {i : Nat} (h : i < L.length) : lAt (L ++ [x]) i = lAt L i := by
  show (L ++ [x]).getD i [] = L.getD i []
  rw [List.getD_eq_getElem?_getD, List.getD_eq_getElem?_getD, List.getElem?_append_left h]
theorem lAt_end {L : List (List Nat)} {x : List Nat} : lAt (L ++ [x]) L.length = x := by
  show (L ++ [x]).getD L.length [] = x
  rw [List.getD_eq_getElem?_getD, List.getElem?_append_right (Nat.le_refl _), Nat.sub_self]; rfl
theorem lAt_set {L : List (List Nat)} {x : List Nat} {p i : Nat} (h : p < L.length) : lAt (L.set p x) i = if i = p then x else lAt L i := by
  show (L.set p x).getD i [] = _
  rw [List.getD_eq_getElem?_getD, List.getElem?_set]
  by_cases e : p = i
  · subst e; simp [h]
  · rw [if_neg e, if_neg (fun e' => e e'.symm)]; show _ = L.getD i []; rw [List.getD_eq_getElem?_getD]

structure GA where
  comps : List (List Nat)
  places : List Nat
  known : List Nat
def newG (s : GA) (n : Nat) : GA := if gt s.known n = 0 then { s with comps := s.comps ++ [[]], known := s.known.set n (s.comps.length + 1) } else s
def putG (s : GA) (k n : Nat) : GA := { s with places := s.places.set k (gt s.known n - 1), comps := s.comps.set (gt s.known n - 1) (lAt s.comps (gt s.known n - 1) ++ [k]) }
def gaK (N : List Nat) (k : Nat) : GA := (List.range k).foldl (fun s x => putG (newG s (gt N x)) x (gt N x)) ⟨[], zeros N.length, zeros (N.length + 1)⟩
theorem gaK_succ (N : List Nat) (k : Nat) : gaK N (k + 1) = putG (newG (gaK N k) (gt N k)) k (gt N k) := by
  unfold gaK
  rw [List.range_succ, List.foldl_append]
  rfl
structure GaI (N : List Nat) (k : Nat) (s : GA) : Prop where
  lp : s.places.length = N.length
  lk : s.known.length = N.length + 1
  cl : s.comps.length ≤ k
  kb : ∀ n, gt s.known n ≤ s.comps.length
  kn : ∀ x, x < k → gt s.known (gt N x) ≠ 0
  inj : ∀ n m, gt s.known n ≠ 0 → gt s.known n = gt s.known m → n = m
  mem : ∀ i, i < s.comps.length → ∀ x, x ∈ lAt s.comps i ↔ x < k ∧ gt s.known (gt N x) = i + 1
  pl : ∀ x, x < k → gt s.places x + 1 = gt s.known (gt N x)
  asc : ∀ i, i < s.comps.length → (lAt s.comps i).Pairwise (· < ·)
/-- Behind newG: the number has its place; the new one is empty yet. -/
structure GaJ (N : List Nat) (k n : Nat) (s : GA) : Prop where
  lp : s.places.length = N.length
  lk : s.known.length = N.length + 1
  cl : s.comps.length ≤ k + 1
  kb : ∀ m, gt s.known m ≤ s.comps.length
  kn : ∀ x, x < k → gt s.known (gt N x) ≠ 0
  kk : gt s.known n ≠ 0
  inj : ∀ n m, gt s.known n ≠ 0 → gt s.known n = gt s.known m → n = m
  mem : ∀ i, i < s.comps.length → ∀ x, x ∈ lAt s.comps i ↔ x < k ∧ gt s.known (gt N x) = i + 1
  pl : ∀ x, x < k → gt s.places x + 1 = gt s.known (gt N x)
  asc : ∀ i, i < s.comps.length → (lAt s.comps i).Pairwise (· < ·)
theorem new_j {N : List Nat} {k : Nat} {s : GA} (h : GaI N k s) (hk : k < N.length) (hb : gt N k ≤ N.length) : GaJ N k (gt N k) (newG s (gt N k)) := by
  unfold newG
  by_cases h0 : gt s.known (gt N k) = 0
  · rw [if_pos h0]
    have hlk : gt N k < s.known.length := by rw [h.lk]; omega
    have hs : ∀ m, gt (s.known.set (gt N k) (s.comps.length + 1)) m = if m = gt N k then s.comps.length + 1 else gt s.known m := fun m => gt_set hlk _ _
    have hl : (s.comps ++ [[]]).length = s.comps.length + 1 := by simp
    refine ⟨h.lp, by rw [List.length_set]; exact h.lk, by show (s.comps ++ [[]]).length ≤ _; rw [hl]; have := h.cl; omega, fun m => ?_, fun x hx => ?_, ?_, fun n m hn e => ?_, fun i hi x => ?_, fun x hx => ?_, fun i hi => ?_⟩
    · show gt (s.known.set _ _) m ≤ (s.comps ++ [[]]).length
      rw [hs, hl]
      split
      · omega
      · have := h.kb m; omega
    · show gt (s.known.set _ _) _ ≠ 0
      rw [hs]
      split
      · omega
      · exact h.kn x hx
    · show gt (s.known.set _ _) _ ≠ 0
      rw [hs, if_pos rfl]; omega
    · change gt (s.known.set _ _) n ≠ 0 at hn
      change gt (s.known.set _ _) n = gt (s.known.set _ _) m at e
      rw [hs] at hn e
      rw [hs] at e
      by_cases e1 : n = gt N k
      · by_cases e2 : m = gt N k
        · rw [e1, e2]
        · rw [if_pos e1, if_neg e2] at e
          have := h.kb m; omega
      · by_cases e2 : m = gt N k
        · rw [if_neg e1, if_pos e2] at e
          have := h.kb n; omega
        · rw [if_neg e1] at hn
          rw [if_neg e1, if_neg e2] at e
          exact h.inj n m hn e
    · change i < (s.comps ++ [[]]).length at hi
      show x ∈ lAt (s.comps ++ [[]]) i ↔ x < k ∧ gt (s.known.set _ _) _ = i + 1
      rw [hl] at hi
      rw [hs]
      by_cases e1 : i = s.comps.length
      · subst e1
        rw [lAt_end]
        constructor
        · intro hx; cases hx
        · rintro ⟨hx, e⟩
          by_cases e2 : gt N x = gt N k
          · have := h.kn x hx; rw [e2] at this; exact absurd h0 this
          · rw [if_neg e2] at e
            have := h.kb (gt N x); omega
      · rw [lAt_app (by omega), h.mem i (by omega)]
        constructor
        · rintro ⟨hx, e⟩
          refine ⟨hx, ?_⟩
          rw [if_neg (fun e2 => by rw [e2, h0] at e; omega)]; exact e
        · rintro ⟨hx, e⟩
          refine ⟨hx, ?_⟩
          by_cases e2 : gt N x = gt N k
          · rw [if_pos e2] at e; omega
          · rw [if_neg e2] at e; exact e
    · show gt s.places x + 1 = gt (s.known.set _ _) _
      rw [hs]
      by_cases e2 : gt N x = gt N k
      · have := h.kn x hx; rw [e2] at this; exact absurd h0 this
      · rw [if_neg e2]; exact h.pl x hx
    · change i < (s.comps ++ [[]]).length at hi
      show (lAt (s.comps ++ [[]]) i).Pairwise _
      rw [hl] at hi
      by_cases e1 : i = s.comps.length
      · subst e1; rw [lAt_end]; exact List.Pairwise.nil
      · rw [lAt_app (by omega)]; exact h.asc i (by omega)
  · rw [if_neg h0]
    exact ⟨h.lp, h.lk, by have := h.cl; omega, h.kb, h.kn, h0, h.inj, h.mem, h.pl, h.asc⟩
theorem put_i {N : List Nat} {k : Nat} {s : GA} (h : GaJ N k (gt N k) s) (hk : k < N.length) : GaI N (k + 1) (putG s k (gt N k)) := by
  have hp : gt s.known (gt N k) - 1 < s.comps.length := by have := h.kb (gt N k); have := h.kk; omega
  obtain ⟨p, hpe⟩ : ∃ p, gt s.known (gt N k) - 1 = p := ⟨_, rfl⟩
  have hpk : gt s.known (gt N k) = p + 1 := by have := h.kk; omega
  unfold putG
  rw [hpe] at hp ⊢
  have hl : (s.comps.set p (lAt s.comps p ++ [k])).length = s.comps.length := List.length_set
  have hset : ∀ i, lAt (s.comps.set p (lAt s.comps p ++ [k])) i = if i = p then lAt s.comps p ++ [k] else lAt s.comps i := fun i => lAt_set hp
  refine ⟨by rw [List.length_set]; exact h.lp, h.lk, by show (s.comps.set _ _).length ≤ _; rw [hl]; exact h.cl, fun m => by show _ ≤ (s.comps.set _ _).length; rw [hl]; exact h.kb m, fun x hx => ?_, h.inj, fun i hi x => ?_, fun x hx => ?_, fun i hi => ?_⟩
  · by_cases e : x = k
    · rw [e]; exact h.kk
    · exact h.kn x (by omega)
  · change i < (s.comps.set _ _).length at hi
    show x ∈ lAt (s.comps.set _ _) i ↔ x < k + 1 ∧ gt s.known (gt N x) = i + 1
    rw [hl] at hi
    rw [hset]
    by_cases e : i = p
    · subst e
      rw [if_pos rfl, List.mem_append, h.mem i hi, List.mem_singleton]
      constructor
      · rintro (⟨h1, h2⟩ | h1)
        · exact ⟨by omega, h2⟩
        · subst h1; exact ⟨by omega, hpk⟩
      · rintro ⟨h1, h2⟩
        by_cases e : x = k
        · exact .inr e
        · exact .inl ⟨by omega, h2⟩
    · rw [if_neg e, h.mem i hi]
      constructor
      · rintro ⟨h1, h2⟩; exact ⟨by omega, h2⟩
      · rintro ⟨h1, h2⟩
        refine ⟨?_, h2⟩
        by_cases e2 : x = k
        · subst e2; omega
        · omega
  · show gt (s.places.set _ _) x + 1 = _
    rw [gt_set (by rw [h.lp]; exact hk)]
    by_cases e : x = k
    · rw [if_pos e, e, hpk]
    · rw [if_neg e]; exact h.pl x (by omega)
  · change i < (s.comps.set _ _).length at hi
    show (lAt (s.comps.set _ _) i).Pairwise _
    rw [hl] at hi
    rw [hset]
    by_cases e : i = p
    · subst e
      rw [if_pos rfl, List.pairwise_append]
      exact ⟨h.asc i hi, List.pairwise_singleton _ _, fun a ha b hb => by
        rw [List.mem_singleton.1 hb]
        exact ((h.mem i hi a).1 ha).1⟩
    · rw [if_neg e]; exact h.asc i hi
theorem gaK_i {N : List Nat} (hb : ∀ x, gt N x ≤ N.length) : ∀ k, k ≤ N.length → GaI N k (gaK N k)
  | 0, _ => by
    have z : ∀ m x, gt (zeros m) x = 0 := fun m x => zget m x
    exact ⟨List.length_replicate, List.length_replicate, Nat.le_refl _, fun n => by show gt (zeros _) n ≤ _; rw [z]; exact Nat.zero_le _, fun x hx => absurd hx (by omega), fun n m hn _ => absurd (z _ n) hn, fun i hi => absurd hi (by show ¬ i < 0; omega), fun x hx => absurd hx (by omega), fun i hi => absurd hi (by show ¬ i < 0; omega)⟩
  | k + 1, hk => by
    rw [gaK_succ]
    exact put_i (new_j (gaK_i hb k (by omega)) (by omega) (hb k)) (by omega)
end Go.Proofs.Ytijohaeiiidcpaa
