/-
  PLAIN. The components in their order: the heap is emptied.
-/
import Derived.Test.YtijohaeiiidcpaaGor
import Derived.Test.YtijohaeiiidcpaaGhp2
namespace Go.Proofs.Ytijohaeiiidcpaa
def dnS (s : List Nat × List Nat) (c : Nat) : List Nat × List Nat := (s.1.set c (gt s.1 c - 1), if gt s.1 c - 1 = 0 then pushL s.2 c else s.2)
structure OW where
  waits : List Nat
  heap : List Nat
  list : List Nat
def dnsS (U : List (List Nat)) (x : Nat) (s : List Nat × List Nat) (k : Nat) : List Nat × List Nat := ((lAt U x).take k).foldl dnS s
def popS (U : List (List Nat)) (s : OW) : OW :=
  ⟨(dnsS U (popL s.heap).1 (s.waits, (popL s.heap).2) (lAt U (popL s.heap).1).length).1, (dnsS U (popL s.heap).1 (s.waits, (popL s.heap).2) (lAt U (popL s.heap).1).length).2, s.list ++ [(popL s.heap).1]⟩
def drainS (U : List (List Nat)) : Nat → OW → OW
  | 0, s => s
  | f + 1, s => if s.heap = [] then s else drainS U f (popS U s)
def frS (W : List Nat) (k : Nat) : List Nat := (List.range k).foldl (fun H p => if gt W p = 0 then pushL H p else H) []
/-- How often c is a user of what is not listed. -/
def restN (U : List (List Nat)) (D : List Nat) (c : Nat) : Nat → Nat
  | 0 => 0
  | k + 1 => restN U D c k + if k ∈ D then 0 else (lAt U k).count c
theorem rest_out {U : List (List Nat)} {D : List Nat} {c x : Nat} : ∀ k, k ≤ x → restN U (D ++ [x]) c k = restN U D c k
  | 0, _ => rfl
  | k + 1, h => by
    show restN U (D ++ [x]) c k + _ = restN U D c k + _
    rw [rest_out k (by omega)]
    have : k ∈ D ++ [x] ↔ k ∈ D := by
      rw [List.mem_append, List.mem_singleton]
      constructor
      · rintro (h1 | h1)
        · exact h1
        · omega
      · exact .inl
    simp only [this]
theorem rest_in {U : List (List Nat)} {D : List Nat} {c x : Nat} (hx : x ∉ D) : ∀ k, x < k → restN U D c k = restN U (D ++ [x]) c k + (lAt U x).count c
  | 0, h => absurd h (Nat.not_lt_zero _)
  | k + 1, h => by
    show restN U D c k + _ = restN U (D ++ [x]) c k + _ + _
    by_cases e : x = k
    · subst e
      rw [rest_out x (Nat.le_refl _), if_neg hx, if_pos (by simp)]
      omega
    · rw [rest_in hx k (by omega)]
      have : k ∈ D ++ [x] ↔ k ∈ D := by
        rw [List.mem_append, List.mem_singleton]
        constructor
        · rintro (h1 | h1)
          · exact h1
          · omega
        · exact .inl
      simp only [this]
      omega
theorem rest_mem {U : List (List Nat)} {D : List Nat} {c y : Nat} (hy : y ∉ D) (hc : c ∈ lAt U y) : ∀ k, y < k → 0 < restN U D c k
  | 0, h => absurd h (Nat.not_lt_zero _)
  | k + 1, h => by
    show 0 < restN U D c k + _
    by_cases e : y = k
    · subst e
      rw [if_neg hy]
      have := List.count_pos_iff.2 hc
      omega
    · have := rest_mem hy hc k (by omega)
      omega
theorem rest_zero {U : List (List Nat)} {D : List Nat} {c : Nat} : ∀ k, 0 < restN U D c k → ∃ y, y < k ∧ y ∉ D ∧ c ∈ lAt U y
  | 0, h => absurd h (Nat.not_lt_zero _)
  | k + 1, h => by
    have h' : 0 < restN U D c k + if k ∈ D then 0 else (lAt U k).count c := h
    by_cases e : 0 < restN U D c k
    · obtain ⟨y, h1, h2⟩ := rest_zero k e
      exact ⟨y, by omega, h2⟩
    · by_cases e2 : k ∈ D
      · rw [if_pos e2] at h'; omega
      · rw [if_neg e2] at h'
        exact ⟨k, by omega, e2, List.count_pos_iff.1 (by omega)⟩
theorem rest_flat (U : List (List Nat)) (c : Nat) : ∀ k, k ≤ U.length → restN U [] c k = (U.take k).flatten.count c
  | 0, _ => by simp [restN]
  | k + 1, h => by
    show restN U [] c k + (if k ∈ [] then 0 else _) = _
    rw [rest_flat U c k (by omega), List.take_succ_eq_append_getElem (by omega), List.flatten_append, List.count_append, if_neg (by simp)]
    congr 1
    have : lAt U k = U[k] := by show U.getD k [] = _; rw [List.getD_eq_getElem?_getD, List.getElem?_eq_getElem (by omega)]; rfl
    rw [this]
    simp
/-- While the users R of the last one are still to be counted down. -/
structure OrI (U : List (List Nat)) (m : Nat) (W H D R : List Nat) : Prop where
  lw : W.length = m
  wc : ∀ c, gt W c = restN U D c m + R.count c
  hz : ∀ c, c < m → (c ∈ D ∨ c ∈ H ↔ gt W c = 0)
  nd : ∀ c, D.count c + H.count c ≤ 1
  bd : ∀ c ∈ D, c < m
  bh : ∀ c ∈ H, c < m
  ord : ∀ A c B, D = A ++ c :: B → ∀ y, y < m → c ∈ lAt U y → y ∈ A
theorem dn_ok {U : List (List Nat)} {m c : Nat} {W H D R : List Nat} (h : OrI U m W H D (c :: R)) (hc : c < m) : OrI U m (dnS (W, H) c).1 (dnS (W, H) c).2 D R := by
  have hcl : c < W.length := by rw [h.lw]; exact hc
  have hw := h.wc c
  rw [List.count_cons_self] at hw
  have hnz : gt W c ≠ 0 := by omega
  have hno := fun e => hnz ((h.hz c hc).1 e)
  have hcH : c ∉ H := fun e => hno (.inr e)
  have hcD : c ∉ D := fun e => hno (.inl e)
  have hset : ∀ d, gt (W.set c (gt W c - 1)) d = if d = c then gt W c - 1 else gt W d := fun d => gt_set hcl _ _
  have hwc : ∀ d, gt (W.set c (gt W c - 1)) d = restN U D d m + R.count d := fun d => by
    rw [hset]
    have h1 := h.wc d
    rw [List.count_cons] at h1
    by_cases e : d = c
    · subst e
      rw [if_pos rfl]
      simp at h1
      omega
    · rw [if_neg e, h1]
      have : (c == d) = false := by simp; exact fun e' => e e'.symm
      rw [this]
      simp
  by_cases h0 : gt W c - 1 = 0
  · have e : dnS (W, H) c = (W.set c (gt W c - 1), pushL H c) := by unfold dnS; rw [if_pos h0]
    rw [e]
    have hmem : ∀ d, d ∈ pushL H c ↔ d ∈ H ∨ d = c := fun d => by
      rw [← List.count_pos_iff, pushL_count, ← List.count_pos_iff]
      by_cases e : c = d
      · subst e; simp
      · rw [if_neg e]
        constructor
        · intro h; exact .inl (by omega)
        · rintro (h | h)
          · omega
          · exact absurd h.symm e
    refine ⟨by rw [List.length_set]; exact h.lw, hwc, fun d hd => ?_, fun d => ?_, h.bd, fun d hd => ?_, h.ord⟩
    · show d ∈ D ∨ d ∈ pushL H c ↔ gt (W.set c (gt W c - 1)) d = 0
      rw [hset, hmem]
      by_cases e2 : d = c
      · rw [if_pos e2]
        exact ⟨fun _ => h0, fun _ => .inr (.inr e2)⟩
      · rw [if_neg e2, ← h.hz d hd]
        constructor
        · rintro (h1 | h1 | h1)
          · exact .inl h1
          · exact .inr h1
          · exact absurd h1 e2
        · rintro (h1 | h1)
          · exact .inl h1
          · exact .inr (.inl h1)
    · show D.count d + (pushL H c).count d ≤ 1
      rw [pushL_count]
      by_cases e2 : c = d
      · subst e2
        rw [if_pos rfl, List.count_eq_zero.2 hcD, List.count_eq_zero.2 hcH]
        exact Nat.le_refl _
      · rw [if_neg e2]; exact h.nd d
    · rcases (hmem d).1 hd with h1 | h1
      · exact h.bh d h1
      · rw [h1]; exact hc
  · have e : dnS (W, H) c = (W.set c (gt W c - 1), H) := by unfold dnS; rw [if_neg h0]
    rw [e]
    refine ⟨by rw [List.length_set]; exact h.lw, hwc, fun d hd => ?_, h.nd, h.bd, h.bh, h.ord⟩
    show d ∈ D ∨ d ∈ H ↔ gt (W.set c (gt W c - 1)) d = 0
    rw [hset]
    by_cases e2 : d = c
    · rw [if_pos e2]
      subst e2
      exact ⟨fun h1 => absurd h1 hno, fun h1 => absurd h1 h0⟩
    · rw [if_neg e2]; exact h.hz d hd
/-- One is taken from the heap. -/
theorem pop_ok {U : List (List Nat)} {m : Nat} {W H D : List Nat} (h : OrI U m W H D []) (hH : H ≠ []) (hU : ∀ x, x ∉ lAt U x) : (popL H).1 < m ∧ (popL H).1 ∉ D ∧ OrI U m W (popL H).2 (D ++ [(popL H).1]) (lAt U (popL H).1) := by
  obtain ⟨x, hx⟩ : ∃ x, (popL H).1 = x := ⟨_, rfl⟩
  obtain ⟨H', hH'⟩ : ∃ H', (popL H).2 = H' := ⟨_, rfl⟩
  have hc := popL_count hH
  rw [hx, hH'] at *
  have hmem : ∀ d, d ∈ H ↔ d ∈ H' ∨ d = x := fun d => by
    rw [← List.count_pos_iff, hc, ← List.count_pos_iff]
    by_cases e : x = d
    · subst e; simp
    · rw [if_neg e]
      constructor
      · intro h; exact .inl (by omega)
      · rintro (h | h)
        · omega
        · exact absurd h.symm e
  have hxH : x ∈ H := (hmem x).2 (.inr rfl)
  have hxm : x < m := h.bh x hxH
  have hcx : H.count x = H'.count x + 1 := by rw [hc x, if_pos rfl]
  have hxD : x ∉ D := fun e => by have h1 := h.nd x; have h2 := List.count_pos_iff.2 e; omega
  have hxz : gt W x = 0 := (h.hz x hxm).1 (.inr hxH)
  refine ⟨hxm, hxD, h.lw, fun c => ?_, fun c hcm => ?_, fun c => ?_, fun c hcd => ?_, fun c hch => h.bh c ((hmem c).2 (.inl hch)), fun A c B e y hy hcy => ?_⟩
  · rw [h.wc c, rest_in hxD m hxm]
    rfl
  · rw [← h.hz c hcm, hmem, List.mem_append, List.mem_singleton]
    constructor
    · rintro ((h1 | h1) | h1)
      · exact .inl h1
      · exact .inr (.inr h1)
      · exact .inr (.inl h1)
    · rintro (h1 | h1 | h1)
      · exact .inl (.inl h1)
      · exact .inr h1
      · exact .inl (.inr h1)
  · have h1 := h.nd c
    rw [hc c] at h1
    rw [List.count_append, List.count_singleton]
    simp only [beq_iff_eq]
    omega
  · rcases List.mem_append.1 hcd with h1 | h1
    · exact h.bd c h1
    · rw [List.mem_singleton.1 h1]; exact hxm
  · rcases List.eq_nil_or_concat B with rfl | ⟨B', z, rfl⟩
    · have e2 := List.append_inj' (e : D ++ [x] = A ++ [c]) rfl
      have e3 : x = c := List.singleton_inj.1 e2.2
      subst e3
      rw [← e2.1]
      by_cases hyD : y ∈ D
      · exact hyD
      · have h1 := rest_mem hyD hcy m hy
        have h2 := h.wc x
        omega
    · have e2 : D ++ [x] = (A ++ c :: B') ++ [z] := by rw [e]; simp
      have e3 := List.append_inj' e2 rfl
      exact h.ord A c B' e3.1 y hy hcy
end Go.Proofs.Ytijohaeiiidcpaa
