/-
  PLAIN. The reference's search as a machine on lists: what is seen, what is to do.
-/
import Derived.Test.YtlnknkplebaioaaGor
namespace Go.Proofs.Ytlnknkplebaioaa
def gb (l : List Bool) (i : Nat) : Bool := l.getD i false
theorem gb_set {l : List Bool} {i : Nat} (h : i < l.length) (v : Bool) (j : Nat) : gb (l.set i v) j = if j = i then v else gb l j := by
  unfold gb
  rw [List.getD_eq_getElem?_getD, List.getD_eq_getElem?_getD, List.getElem?_set]
  by_cases e : j = i
  · subst e; simp [h]
  · rw [if_neg (fun h => e h.symm), if_neg e]
theorem gb_at {l : List Bool} {i : Nat} (h : i < l.length) : gb l i = l[i] := by unfold gb; rw [List.getD_eq_getElem?_getD, List.getElem?_eq_getElem h]; rfl
theorem gb_lt {l : List Bool} {i : Nat} (h : gb l i = true) : i < l.length := by
  by_cases hl : i < l.length
  · exact hl
  · unfold gb at h
    rw [List.getD_eq_getElem?_getD, List.getElem?_eq_none (by omega)] at h
    cases h
structure FS where
  seen : List Bool
  todo : List Nat
def stepF (G : List (List Nat)) (s : FS) : FS := if gb s.seen (s.todo.getLastD 0) then { s with todo := s.todo.dropLast } else ⟨s.seen.set (s.todo.getLastD 0) true, s.todo.dropLast ++ lAt G (s.todo.getLastD 0)⟩
def runF (G : List (List Nat)) : Nat → FS → FS
  | 0, s => s
  | f + 1, s => if s.todo = [] then s else runF G f (stepF G s)
def restD : List (List Nat) → List Bool → Nat
  | g :: G, b :: B => (if b then 0 else g.length) + restD G B
  | _, _ => 0
def muF (G : List (List Nat)) (s : FS) : Nat := s.todo.length + restD G s.seen
theorem restD_le {d : Nat} : ∀ (G : List (List Nat)) (B : List Bool), (∀ l ∈ G, l.length ≤ d) → restD G B ≤ G.length * d
  | [], _, _ => Nat.zero_le _
  | g :: G, [], _ => Nat.zero_le _
  | g :: G, b :: B, h => by
    have h1 := restD_le G B (fun l hl => h l (List.mem_cons_of_mem _ hl))
    have h2 := h g (List.mem_cons_self ..)
    show (if b then 0 else g.length) + restD G B ≤ (G.length + 1) * d
    rw [Nat.succ_mul]
    split <;> omega
theorem restD_set : ∀ (G : List (List Nat)) (B : List Bool) (n : Nat), n < G.length → n < B.length → gb B n = false → restD G (B.set n true) + (lAt G n).length = restD G B
  | [], _, _, h, _, _ => absurd h (Nat.not_lt_zero _)
  | _ :: _, [], _, _, h, _ => absurd h (Nat.not_lt_zero _)
  | g :: G, b :: B, 0, _, _, h => by
    have hb : b = false := h
    subst hb
    show (if true then 0 else g.length) + restD G B + g.length = (if false then 0 else g.length) + restD G B
    simp
    omega
  | g :: G, b :: B, n + 1, h1, h2, h3 => by
    have := restD_set G B n (by simpa using h1) (by simpa using h2) h3
    show (if b then 0 else g.length) + restD G (B.set n true) + (lAt G n).length = (if b then 0 else g.length) + restD G B
    omega
theorem getLastD_app (A : List Nat) (u : Nat) : (A ++ [u]).getLastD 0 = u := by
  rw [List.getLastD_eq_getLast?, List.getLast?_append]
  rfl
theorem stepF_seen {G : List (List Nat)} {s : FS} {A : List Nat} {u : Nat} (ht : s.todo = A ++ [u]) (h : gb s.seen u = true) : stepF G s = ⟨s.seen, A⟩ := by
  unfold stepF
  rw [ht, getLastD_app, if_pos h, List.dropLast_concat]
theorem stepF_new {G : List (List Nat)} {s : FS} {A : List Nat} {u : Nat} (ht : s.todo = A ++ [u]) (h : gb s.seen u = false) : stepF G s = ⟨s.seen.set u true, A ++ lAt G u⟩ := by
  unfold stepF
  rw [ht, getLastD_app, if_neg (by rw [h]; exact Bool.false_ne_true), List.dropLast_concat]
theorem stepF_mu {G : List (List Nat)} {s : FS} {A : List Nat} {u : Nat} (ht : s.todo = A ++ [u]) (hu : u < G.length) (hl : s.seen.length = G.length) : muF G (stepF G s) + 1 = muF G s := by
  cases h : gb s.seen u
  · rw [stepF_new ht h]
    unfold muF
    have := restD_set G s.seen u hu (by omega) h
    rw [ht]
    show (A ++ lAt G u).length + restD G (s.seen.set u true) + 1 = _
    rw [List.length_append, List.length_append, List.length_singleton]
    omega
  · rw [stepF_seen ht h]
    unfold muF
    rw [ht]
    show A.length + restD G s.seen + 1 = _
    rw [List.length_append, List.length_singleton]
    omega
/-- What the search keeps. -/
structure FrI (G : List (List Nat)) (l : List Nat) (s : FS) : Prop where
  len : s.seen.length = G.length
  lt : ∀ x ∈ s.todo, x < G.length
  st : ∀ x ∈ l, gb s.seen x = true ∨ x ∈ s.todo
  nxt : ∀ x k y, gb s.seen x = true → nx G x k = some y → gb s.seen y = true ∨ y ∈ s.todo
  fr : ∀ x, gb s.seen x = true ∨ x ∈ s.todo → ∃ v ∈ l, Re G v x
theorem FrI.step {G : List (List Nat)} {l : List Nat} {s : FS} (hG : ValidG G) (h : FrI G l s) (hp : s.todo ≠ []) : FrI G l (stepF G s) := by
  rcases path_cases s.todo with e | ⟨A, u, e⟩
  · exact absurd e hp
  have hu : u < G.length := h.lt u (by rw [e]; simp)
  have hmem : ∀ x, x ∈ s.todo ↔ x ∈ A ∨ x = u := fun x => by rw [e, List.mem_append, List.mem_singleton]
  cases hb : gb s.seen u
  · rw [stepF_new e hb]
    have hul : u < s.seen.length := by rw [h.len]; exact hu
    have hset : ∀ x, gb (s.seen.set u true) x = true ↔ gb s.seen x = true ∨ x = u := fun x => by
      rw [gb_set hul]
      by_cases ex : x = u
      · rw [if_pos ex]; exact ⟨fun _ => .inr ex, fun _ => rfl⟩
      · rw [if_neg ex]; exact ⟨.inl, fun hc => hc.elim id (fun hc => absurd hc ex)⟩
    have hsucc : ∀ y, y ∈ lAt G u ↔ ∃ k, nx G u k = some y := fun y => by
      constructor
      · intro hy
        obtain ⟨k, hk, ek⟩ := List.getElem_of_mem hy
        exact ⟨k, List.getElem?_eq_some_iff.2 ⟨hk, ek⟩⟩
      · rintro ⟨k, hk⟩
        exact List.mem_of_getElem? hk
    refine ⟨by rw [List.length_set]; exact h.len, fun x hx => ?_, fun x hx => ?_, fun x k y hx hk => ?_, fun x hx => ?_⟩
    · rcases List.mem_append.1 hx with h1 | h1
      · exact h.lt x ((hmem x).2 (.inl h1))
      · obtain ⟨k, hk⟩ := (hsucc x).1 h1
        exact hG u k x hk
    · rw [hset, List.mem_append]
      rcases h.st x hx with h1 | h1
      · exact .inl (.inl h1)
      · rcases (hmem x).1 h1 with h2 | h2
        · exact .inr (.inl h2)
        · exact .inl (.inr h2)
    · rw [hset] at hx
      rw [hset, List.mem_append]
      rcases hx with hx | hx
      · rcases h.nxt x k y hx hk with h1 | h1
        · exact .inl (.inl h1)
        · rcases (hmem y).1 h1 with h2 | h2
          · exact .inr (.inl h2)
          · exact .inl (.inr h2)
      · subst hx
        exact .inr (.inr ((hsucc y).2 ⟨k, hk⟩))
    · rw [hset, List.mem_append] at hx
      rcases hx with (hx | hx) | (hx | hx)
      · exact h.fr x (.inl hx)
      · exact h.fr x (.inr ((hmem x).2 (.inr hx)))
      · exact h.fr x (.inr ((hmem x).2 (.inl hx)))
      · obtain ⟨v, hv, hr⟩ := h.fr u (.inr ((hmem u).2 (.inr rfl)))
        obtain ⟨k, hk⟩ := (hsucc x).1 hx
        exact ⟨v, hv, hr.step hk⟩
  · rw [stepF_seen e hb]
    have hor : ∀ y, (gb s.seen y = true ∨ y ∈ s.todo) → gb s.seen y = true ∨ y ∈ A := fun y hy => by
      rcases hy with h1 | h1
      · exact .inl h1
      · rcases (hmem y).1 h1 with h2 | h2
        · exact .inr h2
        · rw [h2]; exact .inl hb
    exact ⟨h.len, fun x hx => h.lt x ((hmem x).2 (.inl hx)), fun x hx => hor x (h.st x hx), fun x k y hx hk => hor y (h.nxt x k y hx hk), fun x hx => h.fr x (hx.imp id (fun h1 => (hmem x).2 (.inl h1)))⟩
theorem runF_nil {G : List (List Nat)} {s : FS} (h : s.todo = []) : ∀ f, runF G f s = s
  | 0 => rfl
  | f + 1 => by unfold runF; rw [if_pos h]
theorem runF_step {G : List (List Nat)} {s : FS} (h : s.todo ≠ []) (f : Nat) : runF G (f + 1) s = runF G f (stepF G s) := by
  conv => lhs; unfold runF
  rw [if_neg h]
theorem runF_all {G : List (List Nat)} {l : List Nat} (hG : ValidG G) : ∀ (f : Nat) (s : FS), FrI G l s → muF G s ≤ f → FrI G l (runF G f s) ∧ (runF G f s).todo = []
  | 0, s, h, hm => by
    refine ⟨h, ?_⟩
    unfold muF at hm
    exact List.length_eq_zero_iff.1 (by show s.todo.length = 0; omega)
  | f + 1, s, h, hm => by
    by_cases hp : s.todo = []
    · rw [runF_nil hp]; exact ⟨h, hp⟩
    · rw [runF_step hp]
      rcases path_cases s.todo with e | ⟨A, u, e⟩
      · exact absurd e hp
      have := stepF_mu e (h.lt u (by rw [e]; simp)) h.len
      exact runF_all hG f _ (h.step hG hp) (by omega)
def s0F (G : List (List Nat)) (l : List Nat) : FS := ⟨List.replicate G.length false, l⟩
def seenR (G : List (List Nat)) (l : List Nat) : List Bool := (runF G (muF G (s0F G l)) (s0F G l)).seen
theorem gb_rep (n i : Nat) : gb (List.replicate n false) i = false := by
  unfold gb
  rw [List.getD_eq_getElem?_getD, List.getElem?_replicate]
  split <;> rfl
theorem s0F_i {G : List (List Nat)} {l : List Nat} (hl : ∀ x ∈ l, x < G.length) : FrI G l (s0F G l) := by
  refine ⟨List.length_replicate, hl, fun x hx => .inr hx, fun x k y hx => ?_, fun x hx => ?_⟩
  · exact absurd (hx.symm.trans (gb_rep _ _)) (by decide)
  · rcases hx with hx | hx
    · exact absurd (hx.symm.trans (gb_rep _ _)) (by decide)
    · exact ⟨x, hx, Re.refl x⟩
theorem seenR_len {G : List (List Nat)} {l : List Nat} (hG : ValidG G) (hl : ∀ x ∈ l, x < G.length) : (seenR G l).length = G.length := (runF_all hG _ _ (s0F_i hl) (Nat.le_refl _)).1.len
theorem seenR_iff {G : List (List Nat)} {l : List Nat} (hG : ValidG G) (hl : ∀ x ∈ l, x < G.length) (x : Nat) : gb (seenR G l) x = true ↔ ∃ v ∈ l, Re G v x := by
  obtain ⟨h, ht⟩ := runF_all hG _ _ (s0F_i hl) (Nat.le_refl _)
  change FrI G l (runF G (muF G (s0F G l)) (s0F G l)) at h
  constructor
  · intro hx; exact h.fr x (.inl hx)
  · rintro ⟨v, hv, hr⟩
    induction hr with
    | refl =>
      rcases h.st v hv with h1 | h1
      · exact h1
      · rw [ht] at h1; cases h1
    | step _ e ih =>
      rcases h.nxt _ _ _ ih e with h1 | h1
      · exact h1
      · rw [ht] at h1; cases h1
def markedTo (s : List Bool) (k : Nat) : List Nat := (List.range k).filter (fun x => gb s x)
theorem marked_yes {s : List Bool} {k : Nat} (h : gb s k = true) : markedTo s (k + 1) = markedTo s k ++ [k] := by
  unfold markedTo
  rw [List.range_succ, List.filter_append]
  simp [h]
theorem marked_no {s : List Bool} {k : Nat} (h : gb s k = false) : markedTo s (k + 1) = markedTo s k := by
  unfold markedTo
  rw [List.range_succ, List.filter_append]
  simp [h]
theorem marked_len (s : List Bool) (k : Nat) : (markedTo s k).length ≤ k := by
  unfold markedTo
  exact Nat.le_trans (List.length_filter_le _ _) (by rw [List.length_range]; exact Nat.le_refl _)
end Go.Proofs.Ytlnknkplebaioaa
