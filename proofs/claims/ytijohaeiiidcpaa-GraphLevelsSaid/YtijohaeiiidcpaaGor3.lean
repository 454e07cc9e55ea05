/-
  PLAIN. The components in their order: all are listed, each behind those that it leads to.
-/
import Derived.Test.YtijohaeiiidcpaaGor2
namespace Go.Proofs.Ytijohaeiiidcpaa
theorem frS_succ (W : List Nat) (k : Nat) : frS W (k + 1) = if gt W k = 0 then pushL (frS W k) k else frS W k := by
  unfold frS
  rw [List.range_succ, List.foldl_append]
  rfl
theorem frS_count (W : List Nat) (d : Nat) : ∀ k, (frS W k).count d = if d < k ∧ gt W d = 0 then 1 else 0
  | 0 => by
    rw [if_neg (by omega)]
    rfl
  | k + 1 => by
    rw [frS_succ]
    by_cases h0 : gt W k = 0
    · rw [if_pos h0, pushL_count, frS_count W d k]
      by_cases e : k = d
      · subst e
        rw [if_neg (by omega), if_pos rfl, if_pos ⟨by omega, h0⟩]
      · rw [if_neg e]
        by_cases e2 : d < k ∧ gt W d = 0
        · rw [if_pos e2, if_pos ⟨by omega, e2.2⟩]
        · rw [if_neg e2, if_neg (fun e3 => e2 ⟨by omega, e3.2⟩)]
    · rw [if_neg h0, frS_count W d k]
      by_cases e2 : d < k ∧ gt W d = 0
      · rw [if_pos e2, if_pos ⟨by omega, e2.2⟩]
      · rw [if_neg e2, if_neg (fun e3 => by
          by_cases e : d = k
          · subst e; exact h0 e3.2
          · exact e2 ⟨by omega, e3.2⟩)]
theorem frS_mem {W : List Nat} {d k : Nat} : d ∈ frS W k ↔ d < k ∧ gt W d = 0 := by
  rw [← List.count_pos_iff, frS_count]
  split
  · rename_i h; exact ⟨fun _ => h, fun _ => Nat.one_pos⟩
  · rename_i h; exact ⟨fun h1 => absurd h1 (Nat.lt_irrefl 0), fun h1 => absurd h1 h⟩
theorem frS_len (W : List Nat) : ∀ k, (frS W k).length ≤ k
  | 0 => Nat.le_refl _
  | k + 1 => by
    rw [frS_succ]
    have := frS_len W k
    split
    · rw [pushL_len]; omega
    · omega
theorem or_zero {P : List Nat} {m : Nat} {T : Nat → Nat → Prop} {s : OU} (h : OuI P m T s) : OrI s.users m s.waits (frS s.waits m) [] [] := by
  refine ⟨h.lw, fun c => ?_, fun c hc => ?_, fun c => ?_, fun c hc => absurd hc List.not_mem_nil, fun c hc => (frS_mem.1 hc).1, fun A c B e => ?_⟩
  · rw [h.cnt, rest_flat _ _ _ (by rw [h.lu]; exact Nat.le_refl _), List.take_of_length_le (by rw [h.lu]; exact Nat.le_refl _)]
    rfl
  · rw [frS_mem]
    constructor
    · rintro (h1 | h1)
      · exact absurd h1 List.not_mem_nil
      · exact h1.2
    · intro h1; exact .inr ⟨hc, h1⟩
  · rw [frS_count]
    split <;> simp
  · have := congrArg List.length e
    simp at this
theorem dnsS_succ {U : List (List Nat)} {x k c : Nat} {s : List Nat × List Nat} (h : (lAt U x)[k]? = some c) : dnsS U x s (k + 1) = dnS (dnsS U x s k) c := by
  unfold dnsS
  rw [List.take_add_one, h, Option.toList_some, List.foldl_append]
  rfl
theorem dns_ok {U : List (List Nat)} {m x : Nat} {W H D : List Nat} (h : OrI U m W H D (lAt U x)) (hb : ∀ c ∈ lAt U x, c < m) : ∀ k, k ≤ (lAt U x).length → OrI U m (dnsS U x (W, H) k).1 (dnsS U x (W, H) k).2 D ((lAt U x).drop k)
  | 0, _ => h
  | k + 1, hk => by
    have hkl : k < (lAt U x).length := by omega
    have he : (lAt U x)[k]? = some ((lAt U x)[k]) := List.getElem?_eq_getElem hkl
    have ih := dns_ok h hb k (by omega)
    rw [List.drop_eq_getElem_cons hkl] at ih
    rw [dnsS_succ he]
    exact dn_ok ih (hb _ (List.getElem_mem hkl))
theorem popS_ok {U : List (List Nat)} {m : Nat} {s : OW} (h : OrI U m s.waits s.heap s.list []) (hH : s.heap ≠ []) (hU : ∀ x, x ∉ lAt U x) (hb : ∀ x c, c ∈ lAt U x → c < m) : OrI U m (popS U s).waits (popS U s).heap (popS U s).list [] := by
  obtain ⟨-, -, h1⟩ := pop_ok h hH hU
  have h2 := dns_ok h1 (hb _) _ (Nat.le_refl _)
  rw [List.drop_length] at h2
  exact h2
theorem nodup_lt : ∀ (m : Nat) (l : List Nat), l.Nodup → (∀ x ∈ l, x < m) → l.length ≤ m
  | 0, l, _, hb => by
    cases l with
    | nil => exact Nat.le_refl _
    | cons x l => exact absurd (hb x (List.mem_cons_self ..)) (Nat.not_lt_zero _)
  | m + 1, l, h, hb => by
    have h1 := nodup_lt m (l.erase m) (h.erase m) (fun x hx => by
      have h2 := (h.mem_erase_iff).1 hx
      have h3 := hb x h2.2
      have h4 := h2.1
      omega)
    by_cases e : m ∈ l
    · have := List.length_erase_of_mem e; omega
    · rw [List.erase_of_not_mem e] at h1; omega
theorem OrI.dn {U : List (List Nat)} {m : Nat} {W H D R : List Nat} (h : OrI U m W H D R) : (D ++ H).Nodup := by
  rw [List.nodup_iff_count]
  intro c
  rw [List.count_append]
  exact h.nd c
theorem OrI.room {U : List (List Nat)} {m : Nat} {W H D R : List Nat} (h : OrI U m W H D R) : D.length + H.length ≤ m := by
  have := nodup_lt m (D ++ H) h.dn (fun x hx => (List.mem_append.1 hx).elim (h.bd x) (h.bh x))
  rwa [List.length_append] at this
theorem popS_len (U : List (List Nat)) (s : OW) : (popS U s).list.length = s.list.length + 1 := by
  show (s.list ++ [_]).length = _
  simp
theorem drain_ok {U : List (List Nat)} {m : Nat} (hU : ∀ x, x ∉ lAt U x) (hb : ∀ x c, c ∈ lAt U x → c < m) : ∀ (f : Nat) (s : OW), OrI U m s.waits s.heap s.list [] → m ≤ s.list.length + f → OrI U m (drainS U f s).waits (drainS U f s).heap (drainS U f s).list [] ∧ (drainS U f s).heap = []
  | 0, s, h, hf => by
    refine ⟨h, ?_⟩
    have := h.room
    show s.heap = []
    exact List.length_eq_zero_iff.1 (by omega)
  | f + 1, s, h, hf => by
    unfold drainS
    by_cases e : s.heap = []
    · rw [if_pos e]; exact ⟨h, e⟩
    · rw [if_neg e]
      exact drain_ok hU hb f (popS U s) (popS_ok h e hU hb) (by rw [popS_len]; omega)
/-- Where a rank falls along the edges, all are listed. -/
theorem all_listed {U : List (List Nat)} {m : Nat} {W D : List Nat} (h : OrI U m W [] D []) (rank : Nat → Nat) (hr : ∀ x c, x < m → c ∈ lAt U x → rank x < rank c) : ∀ (r c : Nat), c < m → rank c ≤ r → c ∈ D
  | r, c, hc, hrc => by
    by_cases hz : gt W c = 0
    · rcases (h.hz c hc).2 hz with h1 | h1
      · exact h1
      · exact absurd h1 List.not_mem_nil
    · have h1 := h.wc c
      have h2 : 0 < restN U D c m := by
        have : ([] : List Nat).count c = 0 := rfl
        omega
      obtain ⟨y, hy, hyD, hcy⟩ := rest_zero m h2
      have h3 := hr y c hy hcy
      match r, hrc with
      | 0, hrc => omega
      | r + 1, hrc => exact absurd (all_listed h rank hr r y hy (by omega)) hyD
/-- The order in which the components come, as places. -/
def orderP (P : List Nat) (G : List (List Nat)) (m : Nat) : List Nat := (drainS (usK P G m G.length).users m ⟨(usK P G m G.length).waits, frS (usK P G m G.length).waits m, []⟩).list
/-- What the order is. -/
structure Ordered (P : List Nat) (G : List (List Nat)) (m : Nat) (D : List Nat) : Prop where
  nd : D.Nodup
  mem : ∀ c, c ∈ D ↔ c < m
  ord : ∀ A c B, D = A ++ c :: B → ∀ u k v, nx G u k = some v → gt P u = c → gt P v ≠ c → gt P v ∈ A
theorem ordered_ok {P : List Nat} {G : List (List Nat)} {m : Nat} (hP : ∀ x, x < G.length → gt P x < m) (hV : ValidG G) (rank : Nat → Nat) (hr : ∀ u k v, nx G u k = some v → gt P u ≠ gt P v → rank (gt P v) < rank (gt P u)) : Ordered P G m (orderP P G m) := by
  have h := us_ou hP hV G.length (Nat.le_refl _)
  have hE : ∀ u v, Ed G G.length 0 u v → ∃ j, nx G u j = some v := fun u v ⟨j, h1, _⟩ => ⟨j, h1⟩
  obtain ⟨s, hs⟩ : ∃ s, usK P G m G.length = s := ⟨_, rfl⟩
  unfold orderP
  rw [hs] at h ⊢
  have hlow : ∀ x, ¬ x < m → lAt s.users x = [] := fun x hx => by
    show s.users.getD x [] = []
    rw [List.getD_eq_getElem?_getD, List.getElem?_eq_none (by rw [h.lu]; omega)]
    rfl
  have hU : ∀ x, x ∉ lAt s.users x := fun x hx => by
    by_cases hxm : x < m
    · obtain ⟨u, v, -, -, -, h4⟩ := (h.mem x hxm x).1 hx
      exact h4 rfl
    · rw [hlow x hxm] at hx; cases hx
  have hb : ∀ x c, c ∈ lAt s.users x → c < m := fun x c hc => by
    by_cases hxm : x < m
    · obtain ⟨u, v, h1, h2, -, -⟩ := (h.mem x hxm c).1 hc
      obtain ⟨j, hj⟩ := hE u v h1
      rw [← h2]
      exact hP u (nx_lt hj)
    · rw [hlow x hxm] at hc; cases hc
  obtain ⟨g1, g2⟩ := drain_ok hU hb m ⟨s.waits, frS s.waits m, []⟩ (or_zero h) (by show m ≤ 0 + m; omega)
  obtain ⟨D, hD⟩ : ∃ D, drainS s.users m ⟨s.waits, frS s.waits m, []⟩ = D := ⟨_, rfl⟩
  rw [hD] at g1 g2 ⊢
  rw [g2] at g1
  have hnd := g1.dn
  rw [List.append_nil] at hnd
  refine ⟨hnd, fun c => ⟨g1.bd c, fun hc => all_listed g1 rank (fun x c hx hc => ?_) _ c hc (Nat.le_refl _)⟩, fun A c B e u k v hk hu hv => ?_⟩
  · obtain ⟨u, v, h1, h2, h3, h4⟩ := (h.mem x hx c).1 hc
    obtain ⟨j, hj⟩ := hE u v h1
    rw [← h2, ← h3]
    exact hr u j v hj (by rw [h2, h3]; exact h4)
  · have hvm : gt P v < m := hP v (hV u k v hk)
    refine g1.ord A c B e (gt P v) hvm ((h.mem _ hvm c).2 ⟨u, v, ⟨k, hk, .inl (nx_lt hk)⟩, hu, rfl, fun e => hv e.symm⟩)
end Go.Proofs.Ytijohaeiiidcpaa
