/-
  PLAIN. The heap is in order: what is taken from it is the least.
  PLAIN. The reference's search as a machine on lists: what is seen, what is to do.
  PLAIN. The order of the components: the next is always the one with the smallest node of those that lead to listed ones only; there is one such order.
  PLAIN. The program's components come in that order.
  PLAIN. The reference's components as a machine on lists: they come in the same order.
-/
import Derived.Test.YtigmdiagdlbdpaaGreatGor
namespace Go.Proofs.YtigmdiagdlbdpaaGreat
theorem gt_sw {l : List Nat} {i j : Nat} (hi : i < l.length) (hj : j < l.length) (k : Nat) : gt (swL l i j) k = if k = j then gt l i else if k = i then gt l j else gt l k := by
  unfold swL
  rw [gt_set (by rw [List.length_set]; exact hj), gt_set hi]
def Hp (l : List Nat) : Prop := ∀ i, 0 < i → i < l.length → gt l ((i - 1) / 2) ≤ gt l i
structure UpI (l : List Nat) (j : Nat) : Prop where
  rest : ∀ i, 0 < i → i < l.length → i ≠ j → gt l ((i - 1) / 2) ≤ gt l i
  over : ∀ i, 0 < i → i < l.length → (i - 1) / 2 = j → 0 < j → gt l ((j - 1) / 2) ≤ gt l i
theorem up_ok : ∀ (f : Nat) (l : List Nat) (j : Nat), j < f → j < l.length → UpI l j → Hp (upF f l j)
  | 0, _, _, h, _, _ => absurd h (Nat.not_lt_zero _)
  | f + 1, l, j, hf, hj, h => by
    unfold upF
    by_cases h0 : j = 0
    · rw [if_pos h0]
      exact fun i hi hl => h.rest i hi hl (by omega)
    · rw [if_neg h0]
      by_cases h1 : gt l j < gt l ((j - 1) / 2)
      · rw [if_pos h1]
        have hpj : (j - 1) / 2 < j := by omega
        obtain ⟨p, hp⟩ : ∃ p, (j - 1) / 2 = p := ⟨_, rfl⟩
        rw [hp] at h1 hpj ⊢
        have hpl : p < l.length := by omega
        have hg := gt_sw hpl hj
        refine up_ok f _ p (by omega) (by rw [swL_len]; exact hpl) ⟨fun i hi hl hne => ?_, fun i hi hl hip hp0 => ?_⟩
        · rw [swL_len] at hl
          rw [hg, hg]
          by_cases e1 : i = j
          · subst e1
            rw [hp, if_neg (by omega), if_pos rfl, if_pos rfl]
            omega
          · rw [if_neg e1, if_neg hne]
            by_cases e2 : (i - 1) / 2 = j
            · rw [if_pos e2]
              have := h.over i hi hl e2 (by omega)
              rw [hp] at this
              exact this
            · rw [if_neg e2]
              have h2 := h.rest i hi hl e1
              by_cases e3 : (i - 1) / 2 = p
              · rw [if_pos e3]
                rw [e3] at h2
                omega
              · rw [if_neg e3]
                exact h2
        · rw [swL_len] at hl
          have h3 := h.rest p hp0 hpl (by omega)
          rw [hg, hg, if_neg (by omega), if_neg (by omega)]
          by_cases e1 : i = j
          · rw [if_pos e1]
            exact h3
          · rw [if_neg e1, if_neg (by omega)]
            have h2 := h.rest i hi hl e1
            rw [hip] at h2
            omega
      · rw [if_neg h1]
        exact fun i hi hl => by
          by_cases e : i = j
          · subst e; omega
          · exact h.rest i hi hl e
theorem gt_app {l : List Nat} {x i : Nat} (h : i < l.length) : gt (l ++ [x]) i = gt l i := by
  unfold gt
  rw [List.getD_eq_getElem?_getD, List.getD_eq_getElem?_getD, List.getElem?_append_left h]
theorem push_hp {l : List Nat} {x : Nat} (h : Hp l) : Hp (pushL l x) := by
  unfold pushL
  refine up_ok _ _ _ (Nat.lt_succ_self _) (by simp) ⟨fun i hi hl hne => ?_, fun i hi hl hip hp0 => ?_⟩
  · rw [List.length_append, List.length_singleton] at hl
    rw [gt_app (by omega), gt_app (by omega)]
    exact h i hi (by omega)
  · rw [List.length_append, List.length_singleton] at hl
    omega
structure DnI (l : List Nat) (i n : Nat) : Prop where
  rest : ∀ k, 0 < k → k < n → (k - 1) / 2 ≠ i → gt l ((k - 1) / 2) ≤ gt l k
  over : ∀ k, 0 < k → k < n → (k - 1) / 2 = i → 0 < i → gt l ((i - 1) / 2) ≤ gt l k
theorem down_ok : ∀ (f : Nat) (l : List Nat) (i n : Nat), n ≤ f + i → n ≤ l.length → i < l.length → DnI l i n → (∀ k, 0 < k → k < n → gt (downF f l i n) ((k - 1) / 2) ≤ gt (downF f l i n) k) ∧ ∀ k, n ≤ k → i < n → gt (downF f l i n) k = gt l k
  | 0, l, i, n, hf, hn, hi, h => by
    show (∀ k, 0 < k → k < n → gt l _ ≤ gt l k) ∧ ∀ k, n ≤ k → i < n → gt l k = gt l k
    exact ⟨fun k hk hl => h.rest k hk hl (by omega), fun _ _ _ => rfl⟩
  | f + 1, l, i, n, hf, hn, hi, h => by
    unfold downF
    by_cases h0 : n ≤ 2 * i + 1
    · rw [if_pos h0]
      exact ⟨fun k hk hl => h.rest k hk hl (by omega), fun _ _ _ => rfl⟩
    · rw [if_neg h0]
      obtain ⟨j, hj⟩ : ∃ j, kidF l i n = j := ⟨_, rfl⟩
      have hjn : j < n ∧ (j - 1) / 2 = i ∧ 0 < j ∧ i < j ∧ ∀ k, 0 < k → k < n → (k - 1) / 2 = i → gt l j ≤ gt l k := by
        unfold kidF at hj
        by_cases hc : 2 * i + 1 + 1 < n ∧ gt l (2 * i + 1 + 1) < gt l (2 * i + 1)
        · rw [if_pos hc] at hj
          subst hj
          refine ⟨hc.1, by omega, by omega, by omega, fun k hk hl e => ?_⟩
          have : k = 2 * i + 1 ∨ k = 2 * i + 1 + 1 := by omega
          rcases this with rfl | rfl
          · omega
          · exact Nat.le_refl _
        · rw [if_neg hc] at hj
          subst hj
          refine ⟨by omega, by omega, by omega, by omega, fun k hk hl e => ?_⟩
          have : k = 2 * i + 1 ∨ k = 2 * i + 1 + 1 := by omega
          rcases this with rfl | rfl
          · exact Nat.le_refl _
          · exact Nat.le_of_not_lt (fun hlt => hc ⟨hl, hlt⟩)
      obtain ⟨hj1, hj2, hj3, hj4, hj5⟩ := hjn
      rw [hj]
      by_cases h1 : gt l j < gt l i
      · rw [if_pos h1]
        have hg := gt_sw hi (show j < l.length by omega)
        have ih := down_ok f (swL l i j) j n (by omega) (by rw [swL_len]; exact hn) (by rw [swL_len]; omega) ⟨fun k hk hl hne => ?_, fun k hk hl e _ => ?_⟩
        · refine ⟨ih.1, fun k hk _ => ?_⟩
          rw [ih.2 k hk hj1, hg, if_neg (by omega), if_neg (by omega)]
        · rw [hg, hg, if_neg hne]
          by_cases e1 : k = j
          · subst e1
            rw [hj2, if_pos rfl, if_pos rfl]
            omega
          · rw [if_neg e1]
            by_cases e2 : (k - 1) / 2 = i
            · rw [if_pos e2, if_neg (by omega)]
              exact hj5 k hk hl e2
            · rw [if_neg e2]
              have h2 := h.rest k hk hl e2
              by_cases e3 : k = i
              · subst e3
                rw [if_pos rfl]
                have := h.over j hj3 hj1 hj2 hk
                exact this
              · rw [if_neg e3]
                exact h2
        · rw [hj2, hg, hg, if_neg (by omega), if_pos rfl, if_neg (by omega), if_neg (by omega)]
          have := h.rest k hk hl (by omega)
          rw [e] at this
          exact this
      · rw [if_neg h1]
        refine ⟨fun k hk hl => ?_, fun _ _ _ => rfl⟩
        by_cases e : (k - 1) / 2 = i
        · rw [e]
          have := hj5 k hk hl e
          omega
        · exact h.rest k hk hl e
theorem hp_min {l : List Nat} (h : Hp l) : ∀ i, i < l.length → gt l 0 ≤ gt l i := by
  intro i
  induction i using Nat.strongRecOn with
  | _ i ih =>
    intro hi
    by_cases h0 : i = 0
    · rw [h0]; exact Nat.le_refl _
    · have h1 := h i (by omega) hi
      have h2 := ih ((i - 1) / 2) (by omega) (by omega)
      omega
/-- What is taken is the least; the rest is in order. -/
theorem pop_hp {l : List Nat} (h : Hp l) (hl : l ≠ []) : Hp (popL l).2 ∧ ∀ x ∈ l, (popL l).1 ≤ x := by
  have hpos : 0 < l.length := List.length_pos_iff.2 hl
  obtain ⟨m, hm⟩ : ∃ m, l.length = m + 1 := ⟨l.length - 1, by omega⟩
  have hg := gt_sw hpos (show m < l.length by omega)
  have hd := down_ok l.length (swL l 0 m) 0 m (by omega) (by rw [swL_len]; omega) (by rw [swL_len]; exact hpos) ⟨fun k hk hkm hne => ?_, fun k hk hkm e h0 => absurd h0 (Nat.lt_irrefl 0)⟩
  · have he : popD l = downF l.length (swL l 0 m) 0 m := by unfold popD; rw [hm]; rfl
    have h1 : (popL l).1 = gt l 0 := by
      show gt (popD l) (l.length - 1) = _
      rw [he, hm, Nat.add_sub_cancel]
      by_cases hm0 : m = 0
      · subst hm0
        have : downF l.length (swL l 0 0) 0 0 = swL l 0 0 := by
          cases hll : l.length with
          | zero => rfl
          | succ f => unfold downF; rw [if_pos (by omega)]
        rw [hm] at this
        rw [this, hg]
        rfl
      · have := hd.2 m (Nat.le_refl _) (by omega)
        rw [hm] at this
        rw [this, hg, if_pos rfl]
    refine ⟨fun i hi hil => ?_, fun x hx => ?_⟩
    · rw [popL_len, hm, Nat.add_sub_cancel] at hil
      have hdl : ∀ k, k < m → gt (popL l).2 k = gt (popD l) k := fun k hk => by
        show gt (popD l).dropLast k = _
        rw [gt_at (by rw [List.length_dropLast, popD_len]; omega), gt_at (by rw [popD_len]; omega), List.getElem_dropLast]
      rw [hdl i hil, hdl _ (by omega), he]
      exact hd.1 i hi hil
    · rw [h1]
      obtain ⟨i, hi, e⟩ := List.getElem_of_mem hx
      rw [← e, ← gt_at hi]
      exact hp_min h i hi
  · rw [hg, hg, if_neg (by omega), if_neg (by omega), if_neg (by omega), if_neg (by omega)]
    exact h k hk (by omega)
end Go.Proofs.YtigmdiagdlbdpaaGreat
namespace Go.Proofs.YtigmdiagdlbdpaaGreat
def gb (l : List Bool) (i : Nat) : Bool := l.getD i false
theorem gb_set {l : List Bool} {i : Nat} (h : i < l.length) (v : Bool) (j : Nat) : gb (l.set i v) j = if j = i then v else gb l j := by
  unfold gb
  rw [List.getD_eq_getElem?_getD, List.getD_eq_getElem?_getD, List.getElem?_set]
  by_cases e : j = i
  · subst e; simp [h]
  · rw [if_neg (fun h => e h.symm), if_neg e]
theorem gb_at {l : List Bool} {i : Nat} (h : i < l.length) : gb l i = l[i] := by unfold gb; rw [List.getD_eq_getElem?_getD, List.getElem?_eq_getElem h]; rfl
theorem gb_lt {l : List Bool} {i : Nat} (h : gb l i = true) : i < l.length := by
  by_cases hl : i < l.length
  · exact hl
  · unfold gb at h
    rw [List.getD_eq_getElem?_getD, List.getElem?_eq_none (by omega)] at h
    cases h
structure FS where
  seen : List Bool
  todo : List Nat
def stepF (G : List (List Nat)) (s : FS) : FS := if gb s.seen (s.todo.getLastD 0) then { s with todo := s.todo.dropLast } else ⟨s.seen.set (s.todo.getLastD 0) true, s.todo.dropLast ++ lAt G (s.todo.getLastD 0)⟩
def runF (G : List (List Nat)) : Nat → FS → FS
  | 0, s => s
  | f + 1, s => if s.todo = [] then s else runF G f (stepF G s)
def restD : List (List Nat) → List Bool → Nat
  | g :: G, b :: B => (if b then 0 else g.length) + restD G B
  | _, _ => 0
def muF (G : List (List Nat)) (s : FS) : Nat := s.todo.length + restD G s.seen
theorem restD_le {d : Nat} : ∀ (G : List (List Nat)) (B : List Bool), (∀ l ∈ G, l.length ≤ d) → restD G B ≤ G.length * d
  | [], _, _ => Nat.zero_le _
  | g :: G, [], _ => Nat.zero_le _
  | g :: G, b :: B, h => by
    have h1 := restD_le G B (fun l hl => h l (List.mem_cons_of_mem _ hl))
    have h2 := h g (List.mem_cons_self ..)
    show (if b then 0 else g.length) + restD G B ≤ (G.length + 1) * d
    rw [Nat.succ_mul]
    split <;> omega
theorem restD_set : ∀ (G : List (List Nat)) (B : List Bool) (n : Nat), n < G.length → n < B.length → gb B n = false → restD G (B.set n true) + (lAt G n).length = restD G B
  | [], _, _, h, _, _ => absurd h (Nat.not_lt_zero _)
  | _ :: _, [], _, _, h, _ => absurd h (Nat.not_lt_zero _)
  | g :: G, b :: B, 0, _, _, h => by
    have hb : b = false := h
    subst hb
    show (if true then 0 else g.length) + restD G B + g.length = (if false then 0 else g.length) + restD G B
    simp
    omega
  | g :: G, b :: B, n + 1, h1, h2, h3 => by
    have := restD_set G B n (by simpa using h1) (by simpa using h2) h3
    show (if b then 0 else g.length) + restD G (B.set n true) + (lAt G n).length = (if b then 0 else g.length) + restD G B
    omega
theorem getLastD_app (A : List Nat) (u : Nat) : (A ++ [u]).getLastD 0 = u := by
  rw [List.getLastD_eq_getLast?, List.getLast?_append]
  rfl
theorem stepF_seen {G : List (List Nat)} {s : FS} {A : List Nat} {u : Nat} (ht : s.todo = A ++ [u]) (h : gb s.seen u = true) : stepF G s = ⟨s.seen, A⟩ := by
  unfold stepF
  rw [ht, getLastD_app, if_pos h, List.dropLast_concat]
theorem stepF_new {G : List (List Nat)} {s : FS} {A : List Nat} {u : Nat} (ht : s.todo = A ++ [u]) (h : gb s.seen u = false) : stepF G s = ⟨s.seen.set u true, A ++ lAt G u⟩ := by
  unfold stepF
  rw [ht, getLastD_app, if_neg (by rw [h]; exact Bool.false_ne_true), List.dropLast_concat]
theorem stepF_mu {G : List (List Nat)} {s : FS} {A : List Nat} {u : Nat} (ht : s.todo = A ++ [u]) (hu : u < G.length) (hl : s.seen.length = G.length) : muF G (stepF G s) + 1 = muF G s := by
  cases h : gb s.seen u
  · rw [stepF_new ht h]
    unfold muF
    have := restD_set G s.seen u hu (by omega) h
    rw [ht]
    show (A ++ lAt G u).length + restD G (s.seen.set u true) + 1 = _
    rw [List.length_append, List.length_append, List.length_singleton]
    omega
  · rw [stepF_seen ht h]
    unfold muF
    rw [ht]
    show A.length + restD G s.seen + 1 = _
    rw [List.length_append, List.length_singleton]
    omega
/-- What the search keeps. -/
structure FrI (G : List (List Nat)) (l : List Nat) (s : FS) : Prop where
  len : s.seen.length = G.length
  lt : ∀ x ∈ s.todo, x < G.length
  st : ∀ x ∈ l, gb s.seen x = true ∨ x ∈ s.todo
  nxt : ∀ x k y, gb s.seen x = true → nx G x k = some y → gb s.seen y = true ∨ y ∈ s.todo
  fr : ∀ x, gb s.seen x = true ∨ x ∈ s.todo → ∃ v ∈ l, Re G v x
theorem FrI.step {G : List (List Nat)} {l : List Nat} {s : FS} (hG : ValidG G) (h : FrI G l s) (hp : s.todo ≠ []) : FrI G l (stepF G s) := by
  rcases path_cases s.todo with e | ⟨A, u, e⟩
  · exact absurd e hp
  have hu : u < G.length := h.lt u (by rw [e]; simp)
  have hmem : ∀ x, x ∈ s.todo ↔ x ∈ A ∨ x = u := fun x => by rw [e, List.mem_append, List.mem_singleton]
  cases hb : gb s.seen u
  · rw [stepF_new e hb]
    have hul : u < s.seen.length := by rw [h.len]; exact hu
    have hset : ∀ x, gb (s.seen.set u true) x = true ↔ gb s.seen x = true ∨ x = u := fun x => by
      rw [gb_set hul]
      by_cases ex : x = u
      · rw [if_pos ex]; exact ⟨fun _ => .inr ex, fun _ => rfl⟩
      · rw [if_neg ex]; exact ⟨.inl, fun hc => hc.elim id (fun hc => absurd hc ex)⟩
    have hsucc : ∀ y, y ∈ lAt G u ↔ ∃ k, nx G u k = some y := fun y => by
      constructor
      · intro hy
        obtain ⟨k, hk, ek⟩ := List.getElem_of_mem hy
        exact ⟨k, List.getElem?_eq_some_iff.2 ⟨hk, ek⟩⟩
      · rintro ⟨k, hk⟩
        exact List.mem_of_getElem? hk
    refine ⟨by rw [List.length_set]; exact h.len, fun x hx => ?_, fun x hx => ?_, fun x k y hx hk => ?_, fun x hx => ?_⟩
    · rcases List.mem_append.1 hx with h1 | h1
      · exact h.lt x ((hmem x).2 (.inl h1))
      · obtain ⟨k, hk⟩ := (hsucc x).1 h1
        exact hG u k x hk
    · rw [hset, List.mem_append]
      rcases h.st x hx with h1 | h1
      · exact .inl (.inl h1)
      · rcases (hmem x).1 h1 with h2 | h2
        · exact .inr (.inl h2)
        · exact .inl (.inr h2)
    · rw [hset] at hx
      rw [hset, List.mem_append]
      rcases hx with hx | hx
      · rcases h.nxt x k y hx hk with h1 | h1
        · exact .inl (.inl h1)
        · rcases (hmem y).1 h1 with h2 | h2
          · exact .inr (.inl h2)
          · exact .inl (.inr h2)
      · subst hx
        exact .inr (.inr ((hsucc y).2 ⟨k, hk⟩))
    · rw [hset, List.mem_append] at hx
      rcases hx with (hx | hx) | (hx | hx)
      · exact h.fr x (.inl hx)
      · exact h.fr x (.inr ((hmem x).2 (.inr hx)))
      · exact h.fr x (.inr ((hmem x).2 (.inl hx)))
      · obtain ⟨v, hv, hr⟩ := h.fr u (.inr ((hmem u).2 (.inr rfl)))
        obtain ⟨k, hk⟩ := (hsucc x).1 hx
        exact ⟨v, hv, hr.step hk⟩
  · rw [stepF_seen e hb]
    have hor : ∀ y, (gb s.seen y = true ∨ y ∈ s.todo) → gb s.seen y = true ∨ y ∈ A := fun y hy => by
      rcases hy with h1 | h1
      · exact .inl h1
      · rcases (hmem y).1 h1 with h2 | h2
        · exact .inr h2
        · rw [h2]; exact .inl hb
    exact ⟨h.len, fun x hx => h.lt x ((hmem x).2 (.inl hx)), fun x hx => hor x (h.st x hx), fun x k y hx hk => hor y (h.nxt x k y hx hk), fun x hx => h.fr x (hx.imp id (fun h1 => (hmem x).2 (.inl h1)))⟩
theorem runF_nil {G : List (List Nat)} {s : FS} (h : s.todo = []) : ∀ f, runF G f s = s
  | 0 => rfl
  | f + 1 => by unfold runF; rw [if_pos h]
theorem runF_step {G : List (List Nat)} {s : FS} (h : s.todo ≠ []) (f : Nat) : runF G (f + 1) s = runF G f (stepF G s) := by
  conv => lhs; unfold runF
  rw [if_neg h]
theorem runF_all {G : List (List Nat)} {l : List Nat} (hG : ValidG G) : ∀ (f : Nat) (s : FS), FrI G l s → muF G s ≤ f → FrI G l (runF G f s) ∧ (runF G f s).todo = []
  | 0, s, h, hm => by
    refine ⟨h, ?_⟩
    unfold muF at hm
    exact List.length_eq_zero_iff.1 (by show s.todo.length = 0; omega)
  | f + 1, s, h, hm => by
    by_cases hp : s.todo = []
    · rw [runF_nil hp]; exact ⟨h, hp⟩
    · rw [runF_step hp]
      rcases path_cases s.todo with e | ⟨A, u, e⟩
      · exact absurd e hp
      have := stepF_mu e (h.lt u (by rw [e]; simp)) h.len
      exact runF_all hG f _ (h.step hG hp) (by omega)
def s0F (G : List (List Nat)) (l : List Nat) : FS := ⟨List.replicate G.length false, l⟩
def seenR (G : List (List Nat)) (l : List Nat) : List Bool := (runF G (muF G (s0F G l)) (s0F G l)).seen
theorem gb_rep (n i : Nat) : gb (List.replicate n false) i = false := by
  unfold gb
  rw [List.getD_eq_getElem?_getD, List.getElem?_replicate]
  split <;> rfl
theorem s0F_i {G : List (List Nat)} {l : List Nat} (hl : ∀ x ∈ l, x < G.length) : FrI G l (s0F G l) := by
  refine ⟨List.length_replicate, hl, fun x hx => .inr hx, fun x k y hx => ?_, fun x hx => ?_⟩
  · exact absurd (hx.symm.trans (gb_rep _ _)) (by decide)
  · rcases hx with hx | hx
    · exact absurd (hx.symm.trans (gb_rep _ _)) (by decide)
    · exact ⟨x, hx, Re.refl x⟩
theorem seenR_len {G : List (List Nat)} {l : List Nat} (hG : ValidG G) (hl : ∀ x ∈ l, x < G.length) : (seenR G l).length = G.length := (runF_all hG _ _ (s0F_i hl) (Nat.le_refl _)).1.len
theorem seenR_iff {G : List (List Nat)} {l : List Nat} (hG : ValidG G) (hl : ∀ x ∈ l, x < G.length) (x : Nat) : gb (seenR G l) x = true ↔ ∃ v ∈ l, Re G v x := by
  obtain ⟨h, ht⟩ := runF_all hG _ _ (s0F_i hl) (Nat.le_refl _)
  change FrI G l (runF G (muF G (s0F G l)) (s0F G l)) at h
  constructor
  · intro hx; exact h.fr x (.inl hx)
  · rintro ⟨v, hv, hr⟩
    induction hr with
    | refl =>
      rcases h.st v hv with h1 | h1
      · exact h1
      · rw [ht] at h1; cases h1
    | step _ e ih =>
      rcases h.nxt _ _ _ ih e with h1 | h1
      · exact h1
      · rw [ht] at h1; cases h1
def markedTo (s : List Bool) (k : Nat) : List Nat := (List.range k).filter (fun x => gb s x)
theorem marked_yes {s : List Bool} {k : Nat} (h : gb s k = true) : markedTo s (k + 1) = markedTo s k ++ [k] := by
  unfold markedTo
  rw [List.range_succ, List.filter_append]
  simp [h]
theorem marked_no {s : List Bool} {k : Nat} (h : gb s k = false) : markedTo s (k + 1) = markedTo s k := by
  unfold markedTo
  rw [List.range_succ, List.filter_append]
  simp [h]
theorem marked_len (s : List Bool) (k : Nat) : (markedTo s k).length ≤ k := by
  unfold markedTo
  exact Nat.le_trans (List.length_filter_le _ _) (by rw [List.length_range]; exact Nat.le_refl _)
end Go.Proofs.YtigmdiagdlbdpaaGreat
namespace Go.Proofs.YtigmdiagdlbdpaaGreat
/-- The least that can come. -/
def Lst (U : List (List Nat)) (m : Nat) (D : List Nat) : Prop := ∀ A p B, D = A ++ p :: B → ∀ c, c < m → c ∉ A → (∀ y, y < m → y ∉ A → c ∉ lAt U y) → p ≤ c
theorem snoc_split {D A B : List Nat} {p x : Nat} (h : D ++ [x] = A ++ p :: B) : (A = D ∧ p = x) ∨ ∃ B', D = A ++ p :: B' := by
  rcases List.append_eq_append_iff.1 h with ⟨a, h1, h2⟩ | ⟨a, h1, h2⟩
  · cases a with
    | nil =>
      left
      simp at h1 h2
      exact ⟨h1, h2.1.symm⟩
    | cons y r =>
      simp at h2
  · cases a with
    | nil =>
      left
      simp at h1 h2
      exact ⟨h1.symm, h2.1⟩
    | cons y r =>
      right
      simp at h2
      exact ⟨r, by rw [h1, h2.1]⟩
theorem dns_hp {U : List (List Nat)} {x : Nat} {s : List Nat × List Nat} (h : Hp s.2) : ∀ k, k ≤ (lAt U x).length → Hp (dnsS U x s k).2
  | 0, _ => h
  | k + 1, hk => by
    have hkl : k < (lAt U x).length := by omega
    rw [dnsS_succ (List.getElem?_eq_getElem hkl)]
    have ih := dns_hp (U := U) (x := x) h k (by omega)
    show Hp (if _ then pushL _ _ else _)
    split
    · exact push_hp ih
    · exact ih
theorem frS_hp (W : List Nat) : ∀ k, Hp (frS W k)
  | 0 => fun i _ hi => absurd hi (Nat.not_lt_zero _)
  | k + 1 => by
    rw [frS_succ]
    split
    · exact push_hp (frS_hp W k)
    · exact frS_hp W k
theorem drain_lst {U : List (List Nat)} {m : Nat} (hU : ∀ x, x ∉ lAt U x) (hb : ∀ x c, c ∈ lAt U x → c < m) : ∀ (f : Nat) (s : OW), OrI U m s.waits s.heap s.list [] → Hp s.heap → Lst U m s.list → Lst U m (drainS U f s).list
  | 0, _, _, _, h => h
  | f + 1, s, ho, hh, hl => by
    unfold drainS
    by_cases e : s.heap = []
    · rw [if_pos e]; exact hl
    · rw [if_neg e]
      obtain ⟨h1, h2⟩ := pop_hp hh e
      refine drain_lst hU hb f (popS U s) (popS_ok ho e hU hb) (dns_hp h1 _ (Nat.le_refl _)) (fun A p B hD c hc hcA hcU => ?_)
      rcases snoc_split (show s.list ++ [(popL s.heap).1] = A ++ p :: B from hD) with ⟨rfl, rfl⟩ | ⟨B', hB'⟩
      · apply h2
        have hz : gt s.waits c = 0 := by
          have h3 := ho.wc c
          have h4 : restN U s.list c m = 0 := by
            apply Classical.byContradiction
            intro hn
            obtain ⟨y, hy, hyD, hcy⟩ := rest_zero m (Nat.pos_of_ne_zero hn)
            exact hcU y hy hyD hcy
          rw [h4] at h3
          exact h3
        rcases (ho.hz c hc).2 hz with h5 | h5
        · exact absurd h5 hcA
        · exact h5
      · exact hl A p B' hB' c hc hcA hcU
/-- The components' first nodes ascend. -/
theorem gaK_heads {N : List Nat} (hb : ∀ x, gt N x ≤ N.length) : ∀ k, k ≤ N.length → (∀ i, i < (gaK N k).comps.length → (lAt (gaK N k).comps i).headD 0 < k) ∧ ∀ i j, i < j → j < (gaK N k).comps.length → (lAt (gaK N k).comps i).headD 0 < (lAt (gaK N k).comps j).headD 0
  | 0, _ => ⟨fun i hi => absurd hi (Nat.not_lt_zero _), fun i j _ hj => absurd hj (Nat.not_lt_zero _)⟩
  | k + 1, hk => by
    obtain ⟨ih1, ih2⟩ := gaK_heads hb k (by omega)
    have hne := gaK_ne hb k (by omega)
    have h := gaK_i hb k (by omega)
    rw [gaK_succ]
    obtain ⟨s, hs⟩ : ∃ s, gaK N k = s := ⟨_, rfl⟩
    rw [hs] at ih1 ih2 hne h ⊢
    have hn := hb k
    have happ : ∀ l : List Nat, l ≠ [] → (l ++ [k]).headD 0 = l.headD 0 := fun l hl => by cases l with | nil => exact absurd rfl hl | cons a r => rfl
    by_cases h0 : gt s.known (gt N k) = 0
    · have e : newG s (gt N k) = { s with comps := s.comps ++ [[]], known := s.known.set (gt N k) (s.comps.length + 1) } := by unfold newG; rw [if_pos h0]
      have e2 : gt (s.known.set (gt N k) (s.comps.length + 1)) (gt N k) = s.comps.length + 1 := by rw [gt_set (by rw [h.lk]; omega), if_pos rfl]
      rw [e]
      unfold putG
      simp only [e2, Nat.add_sub_cancel]
      have hl : ((s.comps ++ [[]]).set s.comps.length (lAt (s.comps ++ [[]]) s.comps.length ++ [k])).length = s.comps.length + 1 := by simp
      have hat : ∀ i, i < s.comps.length + 1 → (lAt ((s.comps ++ [[]]).set s.comps.length (lAt (s.comps ++ [[]]) s.comps.length ++ [k])) i).headD 0 = if i = s.comps.length then k else (lAt s.comps i).headD 0 := fun i hi => by
        rw [lAt_set (by simp)]
        by_cases ei : i = s.comps.length
        · rw [if_pos ei, if_pos ei, lAt_end]; rfl
        · rw [if_neg ei, if_neg ei, lAt_app (by omega)]
      refine ⟨fun i hi => ?_, fun i j hij hj => ?_⟩
      · rw [hl] at hi
        rw [hat i hi]
        split
        · omega
        · have := ih1 i (by omega); omega
      · rw [hl] at hj
        rw [hat i (by omega), hat j hj, if_neg (by omega)]
        by_cases ej : j = s.comps.length
        · rw [if_pos ej]; exact ih1 i (by omega)
        · rw [if_neg ej]; exact ih2 i j hij (by omega)
    · have e : newG s (gt N k) = s := by unfold newG; rw [if_neg h0]
      have h2 := h.kb (gt N k)
      rw [e]
      unfold putG
      simp only
      obtain ⟨p, hp⟩ : ∃ p, gt s.known (gt N k) - 1 = p := ⟨_, rfl⟩
      rw [hp]
      have hpl : p < s.comps.length := by omega
      have hat : ∀ i, (lAt (s.comps.set p (lAt s.comps p ++ [k])) i).headD 0 = (lAt s.comps i).headD 0 := fun i => by
        rw [lAt_set hpl]
        split
        · rename_i ei
          rw [happ _ (hne p hpl), ei]
        · rfl
      refine ⟨fun i hi => ?_, fun i j hij hj => ?_⟩
      · rw [List.length_set] at hi
        rw [hat]
        have := ih1 i hi; omega
      · rw [List.length_set] at hj
        rw [hat, hat]
        exact ih2 i j hij hj
/-- The nodes in the order of the components: the next has the smallest node that can come. -/
structure Greedy (G C : List (List Nat)) : Prop where
  parts : Parts G C
  least : ∀ k x, k < C.length → x < G.length → (∀ j, j < k → x ∉ lAt C j) → (∀ y, Re G x y → (∃ j, j < k ∧ y ∈ lAt C j) ∨ Re G y x) → (lAt C k).headD 0 ≤ x
theorem Parts.re {G C : List (List Nat)} (hP : Parts G C) (hG : ValidG G) {i x y : Nat} (hi : i < C.length) (hx : x ∈ lAt C i) (h : Re G x y) : y < G.length ∧ ∃ j, j ≤ i ∧ y ∈ lAt C j := by
  induction h with
  | refl => exact ⟨hP.lt i hi x hx, i, Nat.le_refl _, hx⟩
  | step _ e ih =>
    obtain ⟨hy, j, hj, hyj⟩ := ih
    have hz := hG _ _ _ e
    obtain ⟨a, ha, hza⟩ := hP.all _ hz
    have := hP.edge j a _ _ _ (by omega) ha e hyj hza
    exact ⟨hz, a, by omega, hza⟩
theorem asc_eq : ∀ (l l' : List Nat), l.Pairwise (· < ·) → l'.Pairwise (· < ·) → (∀ x, x ∈ l ↔ x ∈ l') → l = l'
  | [], [], _, _, _ => rfl
  | [], y :: r, _, _, h => absurd ((h y).2 (List.mem_cons_self ..)) List.not_mem_nil
  | x :: r, [], _, _, h => absurd ((h x).1 (List.mem_cons_self ..)) List.not_mem_nil
  | x :: r, y :: t, h1, h2, h => by
    have p1 := List.pairwise_cons.1 h1
    have p2 := List.pairwise_cons.1 h2
    have e : x = y := by
      rcases List.mem_cons.1 ((h x).1 (List.mem_cons_self ..)) with a | a
      · exact a
      · rcases List.mem_cons.1 ((h y).2 (List.mem_cons_self ..)) with b | b
        · exact b.symm
        · have := p2.1 x a
          have := p1.1 y b
          omega
    subst e
    congr 1
    refine asc_eq r t p1.2 p2.2 (fun z => ?_)
    constructor
    · intro hz
      rcases List.mem_cons.1 ((h z).1 (List.mem_cons_of_mem _ hz)) with a | a
      · have := p1.1 z hz; omega
      · exact a
    · intro hz
      rcases List.mem_cons.1 ((h z).2 (List.mem_cons_of_mem _ hz)) with a | a
      · have := p2.1 z hz; omega
      · exact a
theorem headD_mem {l : List Nat} (h : l ≠ []) : l.headD 0 ∈ l := by
  cases l with
  | nil => exact absurd rfl h
  | cons x r => exact List.mem_cons_self ..
theorem greedy_ready {G C : List (List Nat)} (h : Greedy G C) (hG : ValidG G) {k x : Nat} (hk : k < C.length) (hx : x ∈ lAt C k) : ∀ y, Re G x y → (∃ j, j < k ∧ y ∈ lAt C j) ∨ Re G y x := fun y hy => by
  obtain ⟨hyn, j, hj, hyj⟩ := h.parts.re hG hk hx hy
  by_cases e : j = k
  · subst e
    exact .inr ((h.parts.tog j x y hk hx hyn).1 hyj).2
  · exact .inl ⟨j, by omega, hyj⟩
theorem greedy_eq {G C C' : List (List Nat)} (hG : ValidG G) (h : Greedy G C) (h' : Greedy G C') : C = C' := by
  have step : ∀ k, (∀ j, j < k → j < C.length → j < C'.length ∧ lAt C j = lAt C' j) := by
    intro k
    induction k with
    | zero => intro j hj; omega
    | succ k ih =>
      intro j hj hjC
      by_cases e : j < k
      · exact ih j e hjC
      · have ejk : j = k := by omega
        subst ejk
        have hsame : ∀ i, i < j → i < C'.length ∧ lAt C i = lAt C' i := fun i hi => ih i hi (by omega)
        have hm := headD_mem (h.parts.ne j hjC)
        obtain ⟨x, hx⟩ : ∃ x, (lAt C j).headD 0 = x := ⟨_, rfl⟩
        rw [hx] at hm
        have hxn := h.parts.lt j hjC x hm
        have hj' : j < C'.length := by
          obtain ⟨a, ha, hxa⟩ := h'.parts.all x hxn
          by_cases haj : a < j
          · have := (hsame a haj).2
            rw [← this] at hxa
            have := h.parts.dis a j x (by omega) hjC hxa hm
            omega
          · omega
        refine ⟨hj', ?_⟩
        have hm' := headD_mem (h'.parts.ne j hj')
        obtain ⟨x', hx'⟩ : ∃ x, (lAt C' j).headD 0 = x := ⟨_, rfl⟩
        rw [hx'] at hm'
        have hxn' := h'.parts.lt j hj' x' hm'
        have l1 := h.least j x' hjC hxn' (fun i hi hc => by
          rw [(hsame i hi).2] at hc
          have := h'.parts.dis i j x' (by omega) hj' hc hm'
          omega) (fun y hy => by
          rcases greedy_ready h' hG hj' hm' y hy with ⟨i, hi, hyi⟩ | hr
          · exact .inl ⟨i, hi, by rw [(hsame i hi).2]; exact hyi⟩
          · exact .inr hr)
        have l2 := h'.least j x hj' hxn (fun i hi hc => by
          rw [← (hsame i hi).2] at hc
          have := h.parts.dis i j x (by omega) hjC hc hm
          omega) (fun y hy => by
          rcases greedy_ready h hG hjC hm y hy with ⟨i, hi, hyi⟩ | hr
          · exact .inl ⟨i, hi, by rw [← (hsame i hi).2]; exact hyi⟩
          · exact .inr hr)
        rw [hx] at l1
        rw [hx'] at l2
        have exx : x = x' := by omega
        subst exx
        refine asc_eq _ _ (h.parts.asc j hjC) (h'.parts.asc j hj') (fun y => ?_)
        constructor
        · intro hy
          have hyn := h.parts.lt j hjC y hy
          exact (h'.parts.tog j x y hj' hm' hyn).2 ((h.parts.tog j x y hjC hm hyn).1 hy)
        · intro hy
          have hyn := h'.parts.lt j hj' y hy
          exact (h.parts.tog j x y hjC hm hyn).2 ((h'.parts.tog j x y hj' hm' hyn).1 hy)
  have hle : C.length ≤ C'.length := by
    apply Classical.byContradiction
    intro hn
    have := (step (C'.length + 1) C'.length (by omega) (by omega)).1
    omega
  have hge : C'.length ≤ C.length := by
    apply Classical.byContradiction
    intro hn
    have hl : C.length < C'.length := by omega
    have hm' := headD_mem (h'.parts.ne C.length hl)
    obtain ⟨a, ha, hxa⟩ := h.parts.all _ (h'.parts.lt _ hl _ hm')
    obtain ⟨ha', e⟩ := step (a + 1) a (by omega) ha
    rw [e] at hxa
    have := h'.parts.dis a C.length _ ha' hl hxa hm'
    omega
  apply List.ext_getElem (by omega)
  intro i h1 h2
  have e := (step (i + 1) i (by omega) h1).2
  have e1 : lAt C i = C[i] := by show C.getD i [] = _; rw [List.getD_eq_getElem?_getD, List.getElem?_eq_getElem h1]; rfl
  have e2 : lAt C' i = C'[i] := by show C'.getD i [] = _; rw [List.getD_eq_getElem?_getD, List.getElem?_eq_getElem h2]; rfl
  rw [← e1, ← e2, e]
end Go.Proofs.YtigmdiagdlbdpaaGreat
namespace Go.Proofs.YtigmdiagdlbdpaaGreat
theorem order_lst {P : List Nat} {G : List (List Nat)} {m : Nat} (hP : ∀ x, x < G.length → gt P x < m) (hV : ValidG G) : Lst (usK P G m G.length).users m (orderP P G m) := by
  have h := us_ou hP hV G.length (Nat.le_refl _)
  unfold orderP
  obtain ⟨s, hs⟩ : ∃ s, usK P G m G.length = s := ⟨_, rfl⟩
  rw [hs] at h ⊢
  have hlow : ∀ x, ¬ x < m → lAt s.users x = [] := fun x hx => by
    show s.users.getD x [] = []
    rw [List.getD_eq_getElem?_getD, List.getElem?_eq_none (by rw [h.lu]; omega)]
    rfl
  have hU : ∀ x, x ∉ lAt s.users x := fun x hx => by
    by_cases hxm : x < m
    · obtain ⟨u, v, -, -, -, h4⟩ := (h.mem x hxm x).1 hx
      exact h4 rfl
    · rw [hlow x hxm] at hx; cases hx
  have hb : ∀ x c, c ∈ lAt s.users x → c < m := fun x c hc => by
    by_cases hxm : x < m
    · obtain ⟨u, v, h1, h2, -, -⟩ := (h.mem x hxm c).1 hc
      obtain ⟨j, hj, _⟩ := h1
      rw [← h2]
      exact hP u (nx_lt hj)
    · rw [hlow x hxm] at hc; cases hc
  refine drain_lst hU hb m ⟨s.waits, frS s.waits m, []⟩ (or_zero h) (frS_hp _ _) (fun A p B e => ?_)
  have := congrArg List.length e
  simp at this
theorem head_le {l : List Nat} (h : l.Pairwise (· < ·)) {x : Nat} (hx : x ∈ l) : l.headD 0 ≤ x := by
  cases l with
  | nil => cases hx
  | cons a r =>
    rcases List.mem_cons.1 hx with e | e
    · rw [e]; exact Nat.le_refl _
    · exact Nat.le_of_lt ((List.pairwise_cons.1 h).1 x e)
theorem comps_greedy {G : List (List Nat)} (hG : ValidG G) : Greedy G (compsG G) := by
  refine ⟨comps_parts hG, fun k x hk hx hno hrd => ?_⟩
  have hN := nums_ok hG (List.range G.length) (fun v hv => List.mem_range.1 hv)
  have hPA := comps_parts hG
  unfold compsG at hk hno hrd hPA ⊢
  obtain ⟨N, hNe⟩ : ∃ N, numbersS G (List.range G.length) = N := ⟨_, rfl⟩
  rw [hNe] at hN hk hno hrd hPA ⊢
  have hb : ∀ x, gt N x ≤ N.length := fun x => by rw [hN.len]; exact hN.bnd x
  have hGI := gaK_i hb N.length (Nat.le_refl _)
  have hHD := (gaK_heads hb N.length (Nat.le_refl _)).2
  unfold ordN at hk hno hrd hPA ⊢
  obtain ⟨S, hS⟩ : ∃ S, gaK N N.length = S := ⟨_, rfl⟩
  rw [hS] at hGI hHD hk hno hrd hPA ⊢
  have hl := hN.len
  have hz : ∀ x, x < G.length → gt N x ≠ 0 := fun x hx => hN.all x (List.mem_range.2 hx)
  have hmem : ∀ i, i < S.comps.length → ∀ x, x ∈ lAt S.comps i ↔ x < G.length ∧ gt S.places x = i := fun i hi x => by
    rw [hGI.mem i hi, ← hl]
    constructor
    · rintro ⟨h1, h2⟩
      have := hGI.pl x h1
      exact ⟨h1, by omega⟩
    · rintro ⟨h1, h2⟩
      have := hGI.pl x h1
      exact ⟨h1, by omega⟩
  have hP : ∀ x, x < G.length → gt S.places x < S.comps.length := fun x hx => by
    have h1 := hGI.pl x (by omega)
    have h2 := hGI.kb (gt N x)
    omega
  have hPN : ∀ x y, x < G.length → y < G.length → (gt S.places x = gt S.places y ↔ gt N x = gt N y) := fun x y hx hy => by
    have h1 := hGI.pl x (by omega)
    have h2 := hGI.pl y (by omega)
    constructor
    · intro e
      exact hGI.inj _ _ (hGI.kn x (by omega)) (by omega)
    · intro e
      rw [e] at h1
      omega
  have hL := order_lst hP hG
  have hou := us_ou hP hG G.length (Nat.le_refl _)
  obtain ⟨D, hD⟩ : ∃ D, orderP S.places G S.comps.length = D := ⟨_, rfl⟩
  rw [hD] at hL hk hno hrd hPA ⊢
  rw [List.length_map] at hk
  have hsp : D = D.take k ++ D[k] :: D.drop (k + 1) := by rw [← List.drop_eq_getElem_cons hk, List.take_append_drop]
  have hDk : D[k] < S.comps.length := by
    have h1 := hPA.ne k (by rw [List.length_map]; exact hk)
    rw [lAt_map hk] at h1
    apply Classical.byContradiction
    intro hn
    apply h1
    show S.comps.getD D[k] [] = []
    rw [List.getD_eq_getElem?_getD, List.getElem?_eq_none (by omega)]
    rfl
  obtain ⟨c, hc⟩ : ∃ c, gt S.places x = c := ⟨_, rfl⟩
  have hcm : c < S.comps.length := by rw [← hc]; exact hP x hx
  have hxc : x ∈ lAt S.comps c := (hmem c hcm x).2 ⟨hx, hc⟩
  have hin : ∀ y, y ∈ D.take k → ∃ j, j < k ∧ ∃ hj : j < D.length, D[j] = y := fun y hy => by
    obtain ⟨j, hj, e⟩ := List.getElem_of_mem hy
    rw [List.length_take] at hj
    rw [List.getElem_take] at e
    exact ⟨j, by omega, by omega, e⟩
  have hle : D[k] ≤ c := hL _ _ _ hsp c hcm (fun hc' => by
    obtain ⟨j, hjk, hj, e⟩ := hin c hc'
    apply hno j hjk
    rw [lAt_map hj, e]
    exact hxc) (fun y hy hyA hcy => by
    obtain ⟨u, v, ⟨a, ha, -⟩, h2, h3, h4⟩ := (hou.mem y hy c).1 hcy
    have hu := nx_lt ha
    have hv := hG u a v ha
    have hux : gt N x = gt N u := (hPN x u hx hu).1 (by rw [hc, h2])
    have hxu := ((hN.iff (hz x hx)).1 hux).1
    have hxv := hxu.step ha
    rcases hrd v hxv with ⟨j, hj, hvj⟩ | hvx
    · rw [lAt_map (by omega)] at hvj
      have hDj : D[j] < S.comps.length := by
        apply Classical.byContradiction
        intro hn
        have : lAt S.comps D[j] = [] := by
          show S.comps.getD D[j] [] = []
          rw [List.getD_eq_getElem?_getD, List.getElem?_eq_none (by omega)]
          rfl
        rw [this] at hvj
        cases hvj
      have h5 := ((hmem _ hDj v).1 hvj).2
      apply hyA
      rw [← h3, h5]
      exact List.mem_take_iff_getElem.2 ⟨j, by omega, rfl⟩
    · have h5 := (hN.iff (y := v) (hz x hx)).2 ⟨hxv, hvx⟩
      have h6 := (hPN x v hx hv).2 h5
      exact h4 (by rw [← hc, h6, h3]))
  rw [lAt_map hk]
  have h1 := head_le (hGI.asc c hcm) hxc
  rcases Nat.lt_or_eq_of_le hle with h2 | h2
  · have := hHD _ _ h2 hcm
    omega
  · rw [h2]; exact h1
end Go.Proofs.YtigmdiagdlbdpaaGreat
namespace Go.Proofs.YtigmdiagdlbdpaaGreat
def rcR (G : List (List Nat)) (u : Nat) : List Nat := markedTo (seenR G [u]) G.length
def compR (G : List (List Nat)) (i : Nat) : List Nat := (rcR G i).filter (fun x => decide (i ∈ rcR G x))
def readyR (G : List (List Nat)) (c : List Nat) (d : List Bool) : Bool := (rcR G (c.headD 0)).all (fun x => gb d x || decide (x ∈ c))
def putB (d : List Bool) (c : List Nat) : List Bool := c.foldl (fun d x => d.set x true) d
structure RS where
  out : List (List Nat)
  done : List Bool
  at_ : Nat
def stepR (G : List (List Nat)) (s : RS) : RS := if gb s.done s.at_ then { s with at_ := s.at_ + 1 } else if readyR G (compR G s.at_) s.done then ⟨s.out ++ [compR G s.at_], putB s.done (compR G s.at_), 0⟩ else { s with at_ := s.at_ + 1 }
def runR (G : List (List Nat)) : Nat → RS → RS
  | 0, s => s
  | f + 1, s => if G.length ≤ s.at_ then s else runR G f (stepR G s)
def cntB (d : List Bool) : Nat := d.countP (fun b => !b)
def muR (G : List (List Nat)) (s : RS) : Nat := cntB s.done * (G.length + 1) + (G.length - s.at_)
def s0R (G : List (List Nat)) : RS := ⟨[], List.replicate G.length false, 0⟩
def compsR (G : List (List Nat)) : List (List Nat) := (runR G (muR G (s0R G)) (s0R G)).out
theorem putB_len : ∀ (c : List Nat) (d : List Bool), (putB d c).length = d.length
  | [], _ => rfl
  | x :: c, d => by
    show (putB (d.set x true) c).length = _
    rw [putB_len c, List.length_set]
theorem putB_get : ∀ (c : List Nat) (d : List Bool) (x : Nat), x < d.length → gb (putB d c) x = (gb d x || decide (x ∈ c))
  | [], d, x, _ => by simp [putB]
  | y :: c, d, x, h => by
    show gb (putB (d.set y true) c) x = _
    rw [putB_get c _ x (by rw [List.length_set]; exact h)]
    by_cases hy : y < d.length
    · rw [gb_set hy]
      by_cases e : x = y
      · rw [if_pos e]; simp [e]
      · rw [if_neg e]
        congr 1
        exact decide_eq_decide.2 ⟨fun hc => List.mem_cons_of_mem _ hc, fun hc => (List.mem_cons.1 hc).elim (fun h => absurd h e) id⟩
    · rw [List.set_eq_of_length_le (by omega)]
      congr 1
      exact decide_eq_decide.2 ⟨fun hc => List.mem_cons_of_mem _ hc, fun hc => (List.mem_cons.1 hc).elim (fun h => by omega) id⟩
theorem cnt_set : ∀ (d : List Bool) (i : Nat), i < d.length → gb d i = false → cntB (d.set i true) + 1 = cntB d
  | [], _, h, _ => absurd h (Nat.not_lt_zero _)
  | b :: d, 0, _, h => by
    have hb : b = false := h
    subst hb
    unfold cntB
    simp
  | b :: d, i + 1, h, hg => by
    have := cnt_set d i (by simpa using h) hg
    unfold cntB at this ⊢
    simp only [List.set_cons_succ, List.countP_cons]
    omega
theorem cnt_set_le (d : List Bool) (i : Nat) : cntB (d.set i true) ≤ cntB d := by
  by_cases h : i < d.length
  · cases hg : gb d i
    · have := cnt_set d i h hg; omega
    · have : d.set i true = d := by
        apply List.ext_getElem?
        intro j
        rw [List.getElem?_set]
        by_cases e : i = j
        · subst e
          rw [if_pos rfl, if_pos h, List.getElem?_eq_getElem h, ← gb_at h, hg]
        · rw [if_neg e]
      rw [this]
      exact Nat.le_refl _
  · rw [List.set_eq_of_length_le (by omega)]
    exact Nat.le_refl _
theorem putB_cnt_le : ∀ (c : List Nat) (d : List Bool), cntB (putB d c) ≤ cntB d
  | [], _ => Nat.le_refl _
  | x :: c, d => Nat.le_trans (putB_cnt_le c _) (cnt_set_le d x)
theorem putB_cnt : ∀ (c : List Nat) (d : List Bool) (i : Nat), i ∈ c → i < d.length → gb d i = false → cntB (putB d c) + 1 ≤ cntB d
  | [], _, _, h, _, _ => absurd h List.not_mem_nil
  | x :: c, d, i, h, hl, hg => by
    show cntB (putB (d.set x true) c) + 1 ≤ _
    by_cases e : i = x
    · subst e
      have h1 := putB_cnt_le c (d.set i true)
      have h2 := cnt_set d i hl hg
      omega
    · have hc : i ∈ c := (List.mem_cons.1 h).elim (fun h => absurd h e) id
      have hg' : gb (d.set x true) i = false := by
        by_cases hx : x < d.length
        · rw [gb_set hx, if_neg e]; exact hg
        · rw [List.set_eq_of_length_le (by omega)]; exact hg
      have h1 := putB_cnt c (d.set x true) i hc (by rw [List.length_set]; exact hl) hg'
      have h2 := cnt_set_le d x
      omega
section
variable {G : List (List Nat)}
theorem mem_rcR (hG : ValidG G) {u : Nat} (hu : u < G.length) (x : Nat) : x ∈ rcR G u ↔ x < G.length ∧ Re G u x := by
  unfold rcR markedTo
  rw [List.mem_filter, List.mem_range, seenR_iff hG (fun v h => by rw [List.mem_singleton.1 h]; exact hu)]
  constructor
  · rintro ⟨h1, v, h2, h3⟩
    rw [List.mem_singleton.1 h2] at h3
    exact ⟨h1, h3⟩
  · rintro ⟨h1, h2⟩
    exact ⟨h1, u, List.mem_singleton.2 rfl, h2⟩
theorem rcR_asc (G : List (List Nat)) (u : Nat) : (rcR G u).Pairwise (· < ·) := by
  unfold rcR markedTo
  exact List.Pairwise.filter _ List.pairwise_lt_range
theorem mem_compR (hG : ValidG G) {i : Nat} (hi : i < G.length) (x : Nat) : x ∈ compR G i ↔ x < G.length ∧ Re G i x ∧ Re G x i := by
  unfold compR
  rw [List.mem_filter, mem_rcR hG hi, decide_eq_true_eq]
  constructor
  · rintro ⟨⟨h1, h2⟩, h3⟩
    exact ⟨h1, h2, ((mem_rcR hG h1 i).1 h3).2⟩
  · rintro ⟨h1, h2, h3⟩
    exact ⟨⟨h1, h2⟩, (mem_rcR hG h1 i).2 ⟨hi, h3⟩⟩
theorem compR_asc (G : List (List Nat)) (i : Nat) : (compR G i).Pairwise (· < ·) := List.Pairwise.filter _ (rcR_asc G i)
theorem compR_self (hG : ValidG G) {i : Nat} (hi : i < G.length) : i ∈ compR G i := (mem_compR hG hi i).2 ⟨hi, Re.refl i, Re.refl i⟩
theorem readyR_iff (hG : ValidG G) {i : Nat} (hi : i < G.length) (d : List Bool) : readyR G (compR G i) d = true ↔ ∀ y, Re G i y → gb d y = true ∨ Re G y i := by
  have hne : compR G i ≠ [] := fun e => by have := compR_self hG hi; rw [e] at this; cases this
  obtain ⟨hh1, hh2, hh3⟩ := (mem_compR hG hi _).1 (headD_mem hne)
  unfold readyR
  rw [List.all_eq_true]
  constructor
  · intro h y hy
    have hyn : y < G.length := by
      cases hy with
      | refl => exact hi
      | step _ e => exact hG _ _ _ e
    have := h y ((mem_rcR hG hh1 y).2 ⟨hyn, hh3.trans hy⟩)
    simp only [Bool.or_eq_true, decide_eq_true_eq] at this
    rcases this with h1 | h1
    · exact .inl h1
    · exact .inr ((mem_compR hG hi y).1 h1).2.2
  · intro h y hy
    obtain ⟨h1, h2⟩ := (mem_rcR hG hh1 y).1 hy
    simp only [Bool.or_eq_true, decide_eq_true_eq]
    rcases h y (hh2.trans h2) with h3 | h3
    · exact .inl h3
    · exact .inr ((mem_compR hG hi y).2 ⟨h1, hh2.trans h2, h3⟩)
/-- What the loop keeps. -/
structure RI (G : List (List Nat)) (s : RS) : Prop where
  len : s.done.length = G.length
  dn : ∀ x, gb s.done x = true ↔ ∃ j, j < s.out.length ∧ x ∈ lAt s.out j
  lt : ∀ j, j < s.out.length → ∀ x ∈ lAt s.out j, x < G.length
  ne : ∀ j, j < s.out.length → lAt s.out j ≠ []
  asc : ∀ j, j < s.out.length → (lAt s.out j).Pairwise (· < ·)
  tog : ∀ j x y, j < s.out.length → x ∈ lAt s.out j → y < G.length → (y ∈ lAt s.out j ↔ Re G x y ∧ Re G y x)
  dis : ∀ i j x, i < s.out.length → j < s.out.length → x ∈ lAt s.out i → x ∈ lAt s.out j → i = j
  cl : ∀ j x y, j < s.out.length → x ∈ lAt s.out j → Re G x y → ∃ a, a ≤ j ∧ y ∈ lAt s.out a
  least : ∀ k x, k < s.out.length → x < G.length → (∀ j, j < k → x ∉ lAt s.out j) → (∀ y, Re G x y → (∃ j, j < k ∧ y ∈ lAt s.out j) ∨ Re G y x) → (lAt s.out k).headD 0 ≤ x
  scan : ∀ x, x < s.at_ → gb s.done x = false → ∃ y, Re G x y ∧ gb s.done y = false ∧ ¬ Re G y x
theorem RI.start (G : List (List Nat)) : RI G (s0R G) :=
  ⟨List.length_replicate, fun x => ⟨fun h => absurd (h.symm.trans (gb_rep _ _)) (by decide), fun ⟨j, h, _⟩ => absurd h (Nat.not_lt_zero _)⟩, fun j h => absurd h (Nat.not_lt_zero _), fun j h => absurd h (Nat.not_lt_zero _), fun j h => absurd h (Nat.not_lt_zero _), fun j _ _ h => absurd h (Nat.not_lt_zero _), fun i j _ h => absurd h (Nat.not_lt_zero _), fun j _ _ h => absurd h (Nat.not_lt_zero _), fun k _ h => absurd h (Nat.not_lt_zero _), fun x h => absurd h (Nat.not_lt_zero _)⟩
theorem RI.skip {s : RS} (h : RI G s) (hs : gb s.done s.at_ = false → ∃ y, Re G s.at_ y ∧ gb s.done y = false ∧ ¬ Re G y s.at_) : RI G { s with at_ := s.at_ + 1 } :=
  ⟨h.len, h.dn, h.lt, h.ne, h.asc, h.tog, h.dis, h.cl, h.least, fun x hx hd => by
    by_cases e : x = s.at_
    · subst e; exact hs hd
    · exact h.scan x (by have hx' : x < s.at_ + 1 := hx; omega) hd⟩
theorem RI.add {s : RS} (hG : ValidG G) (h : RI G s) (hi : s.at_ < G.length) (hd : gb s.done s.at_ = false) (hr : readyR G (compR G s.at_) s.done = true) : RI G ⟨s.out ++ [compR G s.at_], putB s.done (compR G s.at_), 0⟩ := by
  have hrd := (readyR_iff hG hi s.done).1 hr
  have hm := mem_compR hG hi
  obtain ⟨i, hie⟩ : ∃ i, s.at_ = i := ⟨_, rfl⟩
  rw [hie] at hi hd hr hrd hm ⊢
  have hself := compR_self hG hi
  have hasc := compR_asc G i
  obtain ⟨c, hc⟩ : ∃ c, compR G i = c := ⟨_, rfl⟩
  rw [hc] at hm hself hasc ⊢
  have hlen : (s.out ++ [c]).length = s.out.length + 1 := by simp
  have hold : ∀ j, j < s.out.length → lAt (s.out ++ [c]) j = lAt s.out j := fun j hj => lAt_app hj
  have hnew : lAt (s.out ++ [c]) s.out.length = c := lAt_end
  -- no node of the new one is listed
  have hno : ∀ x, x ∈ c → ∀ j, j < s.out.length → x ∉ lAt s.out j := fun x hx j hj hxj => by
    obtain ⟨-, h1, h2⟩ := (hm x).1 hx
    have h3 := (h.tog j x i hj hxj hi).2 ⟨h2, h1⟩
    have h4 := (h.dn i).2 ⟨j, hj, h3⟩
    rw [hd] at h4
    cases h4
  have hsplit : ∀ j, j < (s.out ++ [c]).length → j < s.out.length ∨ j = s.out.length := fun j hj => by omega
  refine ⟨by rw [putB_len]; exact h.len, fun x => ?_, fun j hj x hx => ?_, fun j hj => ?_, fun j hj => ?_, fun j x y hj hx hy => ?_, fun a b x ha hb h1 h2 => ?_, fun j x y hj hx hxy => ?_, fun k x hk hx hnl hr' => ?_, fun x hx => absurd hx (Nat.not_lt_zero _)⟩
  · show gb (putB s.done c) x = true ↔ _
    by_cases hx : x < s.done.length
    · rw [putB_get c _ x hx, Bool.or_eq_true, decide_eq_true_eq, h.dn]
      constructor
      · rintro (⟨j, hj, hxj⟩ | hxc)
        · exact ⟨j, by show j < (s.out ++ [c]).length; omega, by show x ∈ lAt (s.out ++ [c]) j; rw [hold j hj]; exact hxj⟩
        · exact ⟨s.out.length, by show s.out.length < (s.out ++ [c]).length; omega, by show x ∈ lAt (s.out ++ [c]) s.out.length; rw [hnew]; exact hxc⟩
      · rintro ⟨j, hj, hxj⟩
        rcases hsplit j hj with h1 | h1
        · rw [hold j h1] at hxj; exact .inl ⟨j, h1, hxj⟩
        · subst h1; rw [hnew] at hxj; exact .inr hxj
    · constructor
      · intro hg
        have := gb_lt hg
        rw [putB_len] at this
        omega
      · rintro ⟨j, hj, hxj⟩
        exfalso
        apply hx
        rw [h.len]
        rcases hsplit j hj with h1 | h1
        · rw [hold j h1] at hxj; exact h.lt j h1 x hxj
        · subst h1; rw [hnew] at hxj; exact ((hm x).1 hxj).1
  · rcases hsplit j hj with h1 | h1
    · change x ∈ lAt (s.out ++ [c]) j at hx
      rw [hold j h1] at hx; exact h.lt j h1 x hx
    · subst h1
      change x ∈ lAt (s.out ++ [c]) _ at hx
      rw [hnew] at hx; exact ((hm x).1 hx).1
  · show lAt (s.out ++ [c]) j ≠ []
    rcases hsplit j hj with h1 | h1
    · rw [hold j h1]; exact h.ne j h1
    · subst h1
      rw [hnew]
      intro e
      rw [e] at hself
      cases hself
  · show (lAt (s.out ++ [c]) j).Pairwise _
    rcases hsplit j hj with h1 | h1
    · rw [hold j h1]; exact h.asc j h1
    · subst h1; rw [hnew]; exact hasc
  · show y ∈ lAt (s.out ++ [c]) j ↔ _
    change x ∈ lAt (s.out ++ [c]) j at hx
    rcases hsplit j hj with h1 | h1
    · rw [hold j h1] at hx ⊢; exact h.tog j x y h1 hx hy
    · subst h1
      rw [hnew] at hx ⊢
      obtain ⟨-, h2, h3⟩ := (hm x).1 hx
      rw [hm]
      exact ⟨fun ⟨_, a, b⟩ => ⟨h3.trans a, b.trans h2⟩, fun ⟨a, b⟩ => ⟨hy, h2.trans a, b.trans h3⟩⟩
  · change x ∈ lAt (s.out ++ [c]) a at h1
    change x ∈ lAt (s.out ++ [c]) b at h2
    rcases hsplit a ha with e1 | e1
    · rw [hold a e1] at h1
      rcases hsplit b hb with e2 | e2
      · rw [hold b e2] at h2; exact h.dis a b x e1 e2 h1 h2
      · subst e2; rw [hnew] at h2; exact absurd h1 (hno x h2 a e1)
    · subst e1
      rw [hnew] at h1
      rcases hsplit b hb with e2 | e2
      · rw [hold b e2] at h2; exact absurd h2 (hno x h1 b e2)
      · exact e2.symm
  · show ∃ a, a ≤ j ∧ y ∈ lAt (s.out ++ [c]) a
    change x ∈ lAt (s.out ++ [c]) j at hx
    rcases hsplit j hj with h1 | h1
    · rw [hold j h1] at hx
      obtain ⟨a, ha, hya⟩ := h.cl j x y h1 hx hxy
      exact ⟨a, ha, by rw [hold a (by omega)]; exact hya⟩
    · subst h1
      rw [hnew] at hx
      obtain ⟨-, h2, h3⟩ := (hm x).1 hx
      have hyn : y < G.length := by
        cases hxy with
        | refl => exact ((hm _).1 hx).1
        | step _ e => exact hG _ _ _ e
      rcases hrd y (h2.trans hxy) with h4 | h4
      · obtain ⟨a, ha, hya⟩ := (h.dn y).1 h4
        exact ⟨a, by omega, by rw [hold a ha]; exact hya⟩
      · exact ⟨s.out.length, Nat.le_refl _, by rw [hnew, hm]; exact ⟨hyn, h2.trans hxy, h4⟩⟩
  · show (lAt (s.out ++ [c]) k).headD 0 ≤ x
    have hnl' : ∀ j, j < k → j < s.out.length → x ∉ lAt s.out j := fun j hj hjo hc' => hnl j hj (by show x ∈ lAt (s.out ++ [c]) j; rw [hold j hjo]; exact hc')
    rcases hsplit k hk with h1 | h1
    · rw [hold k h1]
      refine h.least k x h1 hx (fun j hj => hnl' j hj (by omega)) (fun y hy => ?_)
      rcases hr' y hy with ⟨j, hj, hyj⟩ | h2
      · change y ∈ lAt (s.out ++ [c]) j at hyj
        rw [hold j (by omega)] at hyj
        exact .inl ⟨j, hj, hyj⟩
      · exact .inr h2
    · subst h1
      rw [hnew]
      have h2 : c.headD 0 ≤ i := head_le hasc hself
      have h3 : gb s.done x = false := by
        cases hg : gb s.done x with
        | false => rfl
        | true =>
          obtain ⟨j, hj, hxj⟩ := (h.dn x).1 hg
          exact absurd hxj (hnl' j hj hj)
      apply Classical.byContradiction
      intro hlt
      obtain ⟨y, hy1, hy2, hy3⟩ := h.scan x (by omega) h3
      rcases hr' y hy1 with ⟨j, hj, hyj⟩ | h4
      · change y ∈ lAt (s.out ++ [c]) j at hyj
        rw [hold j hj] at hyj
        have := (h.dn y).2 ⟨j, hj, hyj⟩
        rw [hy2] at this
        cases this
      · exact hy3 h4
theorem RI.step {s : RS} (hG : ValidG G) (h : RI G s) (hi : s.at_ < G.length) : RI G (stepR G s) := by
  unfold stepR
  cases hd : gb s.done s.at_
  · rw [if_neg (by decide)]
    cases hr : readyR G (compR G s.at_) s.done
    · rw [if_neg (by decide)]
      refine h.skip (fun _ => ?_)
      have hn : ¬ ∀ y, Re G s.at_ y → gb s.done y = true ∨ Re G y s.at_ := fun hall => by
        have := (readyR_iff hG hi s.done).2 hall
        rw [hr] at this
        cases this
      apply Classical.byContradiction
      intro hne
      apply hn
      intro y hy
      cases hg : gb s.done y with
      | true => exact .inl rfl
      | false =>
        right
        apply Classical.byContradiction
        intro hb
        exact hne ⟨y, hy, hg, hb⟩
    · rw [if_pos rfl]
      exact h.add hG hi hd hr
  · rw [if_pos rfl]
    exact h.skip (fun hf => absurd (hd.symm.trans hf) (by decide))
theorem stepR_mu {s : RS} (hG : ValidG G) (h : RI G s) (hi : s.at_ < G.length) : muR G (stepR G s) + 1 ≤ muR G s := by
  unfold stepR muR
  cases hd : gb s.done s.at_
  · rw [if_neg (by decide)]
    cases hr : readyR G (compR G s.at_) s.done
    · rw [if_neg (by decide)]
      show cntB s.done * _ + (G.length - (s.at_ + 1)) + 1 ≤ _
      omega
    · rw [if_pos rfl]
      show cntB (putB s.done (compR G s.at_)) * (G.length + 1) + (G.length - 0) + 1 ≤ cntB s.done * (G.length + 1) + (G.length - s.at_)
      have h1 := putB_cnt (compR G s.at_) s.done s.at_ (compR_self hG hi) (by rw [h.len]; exact hi) hd
      have h2 := Nat.mul_le_mul_right (G.length + 1) h1
      rw [Nat.succ_mul] at h2
      omega
  · rw [if_pos rfl]
    show cntB s.done * _ + (G.length - (s.at_ + 1)) + 1 ≤ _
    omega
theorem runR_end {s : RS} (h : G.length ≤ s.at_) : ∀ f, runR G f s = s
  | 0 => rfl
  | f + 1 => by unfold runR; rw [if_pos h]
theorem runR_step {s : RS} (h : s.at_ < G.length) (f : Nat) : runR G (f + 1) s = runR G f (stepR G s) := by
  conv => lhs; unfold runR
  rw [if_neg (by omega)]
theorem runR_all (hG : ValidG G) : ∀ (f : Nat) (s : RS), RI G s → muR G s ≤ f → RI G (runR G f s) ∧ G.length ≤ (runR G f s).at_
  | 0, s, h, hm => by
    refine ⟨h, ?_⟩
    unfold muR at hm
    show G.length ≤ s.at_
    omega
  | f + 1, s, h, hm => by
    by_cases hp : G.length ≤ s.at_
    · rw [runR_end hp]; exact ⟨h, hp⟩
    · have hp' : s.at_ < G.length := by omega
      rw [runR_step hp']
      have := stepR_mu hG h hp'
      exact runR_all hG f _ (h.step hG hp') (by omega)
theorem RI.greedy {s : RS} (hG : ValidG G) (h : RI G s) (he : G.length ≤ s.at_) : Greedy G s.out := by
  have hall : ∀ x, x < G.length → ∃ i, i < s.out.length ∧ x ∈ lAt s.out i := by
    have hN := nums_ok hG (List.range G.length) (fun v hv => List.mem_range.1 hv)
    obtain ⟨N, hNe⟩ : ∃ N, numbersS G (List.range G.length) = N := ⟨_, rfl⟩
    rw [hNe] at hN
    have hz : ∀ x, x < G.length → gt N x ≠ 0 := fun x hx => hN.all x (List.mem_range.2 hx)
    have key : ∀ r x, x < G.length → gt N x ≤ r → gb s.done x = true := by
      intro r
      induction r with
      | zero => intro x hx hr; exact absurd (Nat.le_zero.1 hr) (hz x hx)
      | succ r ih =>
        intro x hx hr
        cases hg : gb s.done x with
        | true => rfl
        | false =>
          obtain ⟨y, h1, h2, h3⟩ := h.scan x (by omega) hg
          have hyn : y < G.length := by
            cases h1 with
            | refl => exact hx
            | step _ e => exact hG _ _ _ e
          have h4 := (hN.re h1 (hz x hx)).2
          by_cases e : gt N y = gt N x
          · exact absurd ((hN.iff (hz x hx)).1 e.symm).2 h3
          · have := ih y hyn (by omega)
            rw [h2] at this
            cases this
    exact fun x hx => (h.dn x).1 (key _ x hx (Nat.le_refl _))
  refine ⟨⟨h.lt, h.asc, h.ne, h.dis, hall, fun i j u k v hi hj hk hu hv => ?_, h.tog⟩, h.least⟩
  obtain ⟨a, ha, hva⟩ := h.cl i u v hi hu ((Re.refl u).step hk)
  have := h.dis a j v (by omega) hj hva hv
  omega
theorem compsR_eq (hG : ValidG G) : compsR G = compsG G := by
  obtain ⟨h1, h2⟩ := runR_all hG _ _ (RI.start G) (Nat.le_refl _)
  exact greedy_eq hG (h1.greedy hG h2) (comps_greedy hG)
end
end Go.Proofs.YtigmdiagdlbdpaaGreat
