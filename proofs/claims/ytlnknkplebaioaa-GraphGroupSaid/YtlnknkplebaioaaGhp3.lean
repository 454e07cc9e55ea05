/-
  PLAIN. The heap is in order: what is taken from it is the least.
-/
import Derived.Test.YtlnknkplebaioaaGor
namespace Go.Proofs.Ytlnknkplebaioaa
theorem gt_sw {l : List Nat} {i j : Nat} (hi : i < l.length) (hj : j < l.length) (k : Nat) : gt (swL l i j) k = if k = j then gt l i else if k = i then gt l j else gt l k := by
  unfold swL
  rw [gt_set (by rw [List.length_set]; exact hj), gt_set hi]
def Hp (l : List Nat) : Prop := ∀ i, 0 < i → i < l.length → gt l ((i - 1) / 2) ≤ gt l i
structure UpI (l : List Nat) (j : Nat) : Prop where
  rest : ∀ i, 0 < i → i < l.length → i ≠ j → gt l ((i - 1) / 2) ≤ gt l i
  over : ∀ i, 0 < i → i < l.length → (i - 1) / 2 = j → 0 < j → gt l ((j - 1) / 2) ≤ gt l i
theorem up_ok : ∀ (f : Nat) (l : List Nat) (j : Nat), j < f → j < l.length → UpI l j → Hp (upF f l j)
  | 0, _, _, h, _, _ => absurd h (Nat.not_lt_zero _)
  | f + 1, l, j, hf, hj, h => by
    unfold upF
    by_cases h0 : j = 0
    · rw [if_pos h0]
      exact fun i hi hl => h.rest i hi hl (by omega)
    · rw [if_neg h0]
      by_cases h1 : gt l j < gt l ((j - 1) / 2)
      · rw [if_pos h1]
        have hpj : (j - 1) / 2 < j := by omega
        obtain ⟨p, hp⟩ : ∃ p, (j - 1) / 2 = p := ⟨_, rfl⟩
        rw [hp] at h1 hpj ⊢
        have hpl : p < l.length := by omega
        have hg := gt_sw hpl hj
        refine up_ok f _ p (by omega) (by rw [swL_len]; exact hpl) ⟨fun i hi hl hne => ?_, fun i hi hl hip hp0 => ?_⟩
        · rw [swL_len] at hl
          rw [hg, hg]
          by_cases e1 : i = j
          · subst e1
            rw [hp, if_neg (by omega), if_pos rfl, if_pos rfl]
            omega
          · rw [if_neg e1, if_neg hne]
            by_cases e2 : (i - 1) / 2 = j
            · rw [if_pos e2]
              have := h.over i hi hl e2 (by omega)
              rw [hp] at this
              exact this
            · rw [if_neg e2]
              have h2 := h.rest i hi hl e1
              by_cases e3 : (i - 1) / 2 = p
              · rw [if_pos e3]
                rw [e3] at h2
                omega
              · rw [if_neg e3]
                exact h2
        · rw [swL_len] at hl
          have h3 := h.rest p hp0 hpl (by omega)
          rw [hg, hg, if_neg (by omega), if_neg (by omega)]
          by_cases e1 : i = j
          · rw [if_pos e1]
            exact h3
          · rw [if_neg e1, if_neg (by omega)]
            have h2 := h.rest i hi hl e1
            rw [hip] at h2
            omega
      · rw [if_neg h1]
        exact fun i hi hl => by
          by_cases e : i = j
          · subst e; omega
          · exact h.rest i hi hl e
theorem gt_app {l : List Nat} {x i : Nat} (h : i < l.length) : gt (l ++ [x]) i = gt l i := by
  unfold gt
  rw [List.getD_eq_getElem?_getD, List.getD_eq_getElem?_getD, List.getElem?_append_left h]
theorem push_hp {l : List Nat} {x : Nat} (h : Hp l) : Hp (pushL l x) := by
  unfold pushL
  refine up_ok _ _ _ (Nat.lt_succ_self _) (by simp) ⟨fun i hi hl hne => ?_, fun i hi hl hip hp0 => ?_⟩
  · rw [List.length_append, List.length_singleton] at hl
    rw [gt_app (by omega), gt_app (by omega)]
    exact h i hi (by omega)
  · rw [List.length_append, List.length_singleton] at hl
    omega
structure DnI (l : List Nat) (i n : Nat) : Prop where
  rest : ∀ k, 0 < k → k < n → (k - 1) / 2 ≠ i → gt l ((k - 1) / 2) ≤ gt l k
  over : ∀ k, 0 < k → k < n → (k - 1) / 2 = i → 0 < i → gt l ((i - 1) / 2) ≤ gt l k
theorem down_ok : ∀ (f : Nat) (l : List Nat) (i n : Nat), n ≤ f + i → n ≤ l.length → i < l.length → DnI l i n → (∀ k, 0 < k → k < n → gt (downF f l i n) ((k - 1) / 2) ≤ gt (downF f l i n) k) ∧ ∀ k, n ≤ k → i < n → gt (downF f l i n) k = gt l k
  | 0, l, i, n, hf, hn, hi, h => by
    show (∀ k, 0 < k → k < n → gt l _ ≤ gt l k) ∧ ∀ k, n ≤ k → i < n → gt l k = gt l k
    exact ⟨fun k hk hl => h.rest k hk hl (by omega), fun _ _ _ => rfl⟩
  | f + 1, l, i, n, hf, hn, hi, h => by
    unfold downF
    by_cases h0 : n ≤ 2 * i + 1
    · rw [if_pos h0]
      exact ⟨fun k hk hl => h.rest k hk hl (by omega), fun _ _ _ => rfl⟩
    · rw [if_neg h0]
      obtain ⟨j, hj⟩ : ∃ j, kidF l i n = j := ⟨_, rfl⟩
      have hjn : j < n ∧ (j - 1) / 2 = i ∧ 0 < j ∧ i < j ∧ ∀ k, 0 < k → k < n → (k - 1) / 2 = i → gt l j ≤ gt l k := by
        unfold kidF at hj
        by_cases hc : 2 * i + 1 + 1 < n ∧ gt l (2 * i + 1 + 1) < gt l (2 * i + 1)
        · rw [if_pos hc] at hj
          subst hj
          refine ⟨hc.1, by omega, by omega, by omega, fun k hk hl e => ?_⟩
          have : k = 2 * i + 1 ∨ k = 2 * i + 1 + 1 := by omega
          rcases this with rfl | rfl
          · omega
          · exact Nat.le_refl _
        · rw [if_neg hc] at hj
          subst hj
          refine ⟨by omega, by omega, by omega, by omega, fun k hk hl e => ?_⟩
          have : k = 2 * i + 1 ∨ k = 2 * i + 1 + 1 := by omega
          rcases this with rfl | rfl
          · exact Nat.le_refl _
          · exact Nat.le_of_not_lt (fun hlt => hc ⟨hl, hlt⟩)
      obtain ⟨hj1, hj2, hj3, hj4, hj5⟩ := hjn
      rw [hj]
      by_cases h1 : gt l j < gt l i
      · rw [if_pos h1]
        have hg := gt_sw hi (show j < l.length by omega)
        have ih := down_ok f (swL l i j) j n (by omega) (by rw [swL_len]; exact hn) (by rw [swL_len]; omega) ⟨fun k hk hl hne => ?_, fun k hk hl e _ => ?_⟩
        · refine ⟨ih.1, fun k hk _ => ?_⟩
          rw [ih.2 k hk hj1, hg, if_neg (by omega), if_neg (by omega)]
        · rw [hg, hg, if_neg hne]
          by_cases e1 : k = j
          · subst e1
            rw [hj2, if_pos rfl, if_pos rfl]
            omega
          · rw [if_neg e1]
            by_cases e2 : (k - 1) / 2 = i
            · rw [if_pos e2, if_neg (by omega)]
              exact hj5 k hk hl e2
            · rw [if_neg e2]
              have h2 := h.rest k hk hl e2
              by_cases e3 : k = i
              · subst e3
                rw [if_pos rfl]
                have := h.over j hj3 hj1 hj2 hk
                exact this
              · rw [if_neg e3]
                exact h2
        · rw [hj2, hg, hg, if_neg (by omega), if_pos rfl, if_neg (by omega), if_neg (by omega)]
          have := h.rest k hk hl (by omega)
          rw [e] at this
          exact this
      · rw [if_neg h1]
        refine ⟨fun k hk hl => ?_, fun _ _ _ => rfl⟩
        by_cases e : (k - 1) / 2 = i
        · rw [e]
          have := hj5 k hk hl e
          omega
        · exact h.rest k hk hl e
theorem hp_min {l : List Nat} (h : Hp l) : ∀ i, i < l.length → gt l 0 ≤ gt l i := by
  intro i
  induction i using Nat.strongRecOn with
  | _ i ih =>
    intro hi
    by_cases h0 : i = 0
    · rw [h0]; exact Nat.le_refl _
    · have h1 := h i (by omega) hi
      have h2 := ih ((i - 1) / 2) (by omega) (by omega)
      omega
/-- What is taken is the least; the rest is in order. -/
theorem pop_hp {l : List Nat} (h : Hp l) (hl : l ≠ []) : Hp (popL l).2 ∧ ∀ x ∈ l, (popL l).1 ≤ x := by
  have hpos : 0 < l.length := List.length_pos_iff.2 hl
  obtain ⟨m, hm⟩ : ∃ m, l.length = m + 1 := ⟨l.length - 1, by omega⟩
  have hg := gt_sw hpos (show m < l.length by omega)
  have hd := down_ok l.length (swL l 0 m) 0 m (by omega) (by rw [swL_len]; omega) (by rw [swL_len]; exact hpos) ⟨fun k hk hkm hne => ?_, fun k hk hkm e h0 => absurd h0 (Nat.lt_irrefl 0)⟩
  · have he : popD l = downF l.length (swL l 0 m) 0 m := by unfold popD; rw [hm]; rfl
    have h1 : (popL l).1 = gt l 0 := by
      show gt (popD l) (l.length - 1) = _
      rw [he, hm, Nat.add_sub_cancel]
      by_cases hm0 : m = 0
      · subst hm0
        have : downF l.length (swL l 0 0) 0 0 = swL l 0 0 := by
          cases hll : l.length with
          | zero => rfl
          | succ f => unfold downF; rw [if_pos (by omega)]
        rw [hm] at this
        rw [this, hg]
        rfl
      · have := hd.2 m (Nat.le_refl _) (by omega)
        rw [hm] at this
        rw [this, hg, if_pos rfl]
    refine ⟨fun i hi hil => ?_, fun x hx => ?_⟩
    · rw [popL_len, hm, Nat.add_sub_cancel] at hil
      have hdl : ∀ k, k < m → gt (popL l).2 k = gt (popD l) k := fun k hk => by
        show gt (popD l).dropLast k = _
        rw [gt_at (by rw [List.length_dropLast, popD_len]; omega), gt_at (by rw [popD_len]; omega), List.getElem_dropLast]
      rw [hdl i hil, hdl _ (by omega), he]
      exact hd.1 i hi hil
    · rw [h1]
      obtain ⟨i, hi, e⟩ := List.getElem_of_mem hx
      rw [← e, ← gt_at hi]
      exact hp_min h i hi
  · rw [hg, hg, if_neg (by omega), if_neg (by omega), if_neg (by omega), if_neg (by omega)]
    exact h k hk (by omega)
end Go.Proofs.Ytlnknkplebaioaa
