/-
  PLAIN. The program's distances on lists: how many edges a shortest path to the target has.
  PLAIN. The program's shortest cycle through a node on lists; the smallest of the shortest ones.
  PLAIN. A list of modules as a graph: the names in order, each module's imports as nodes.
-/
import Derived.Test.YtigmdiagdlbdpaaGreatGor
namespace Go.Proofs.YtigmdiagdlbdpaaGreat
/-- A path of k edges. -/
inductive Pth (G : List (List Nat)) : Nat → Nat → Nat → Prop
  | nil (x : Nat) : Pth G x 0 x
  | cons {x y z k : Nat} : y ∈ lAt G x → Pth G y k z → Pth G x (k + 1) z
theorem Pth.snoc {G : List (List Nat)} {x y z k : Nat} (h : Pth G x k y) (e : z ∈ lAt G y) : Pth G x (k + 1) z := by
  induction h with
  | nil x => exact .cons e (.nil z)
  | cons e' _ ih => exact .cons e' (ih e)
theorem Pth.split {G : List (List Nat)} {x z : Nat} : ∀ {a b : Nat}, Pth G x (a + b) z → ∃ y, Pth G x a y ∧ Pth G y b z := by
  intro a
  induction a generalizing x with
  | zero => intro b h; exact ⟨x, .nil x, by rw [Nat.zero_add] at h; exact h⟩
  | succ a ih =>
    intro b h
    rw [show a + 1 + b = (a + b) + 1 by omega] at h
    cases h with
    | cons e h' =>
      obtain ⟨y, h1, h2⟩ := ih h'
      exact ⟨y, .cons e h1, h2⟩
theorem Pth.join {G : List (List Nat)} {x y z a b : Nat} (h : Pth G x a y) (k : Pth G y b z) : Pth G x (a + b) z := by
  induction h with
  | nil x => rw [Nat.zero_add]; exact k
  | cons e _ ih =>
    have h := Pth.cons e (ih k)
    rwa [Nat.add_right_comm] at h
theorem Pth.lt {G : List (List Nat)} {y t k : Nat} (h : Pth G y k t) (ht : t < G.length) : y < G.length := by
  cases h with
  | nil => exact ht
  | cons e _ =>
    apply Nat.lt_of_not_le
    intro hge
    have : lAt G y = [] := by show G.getD y [] = _; rw [List.getD_eq_getElem?_getD, List.getElem?_eq_none hge]; rfl
    rw [this] at e
    cases e
theorem nx_mem {G : List (List Nat)} {u v : Nat} : (∃ k, nx G u k = some v) ↔ v ∈ lAt G u := by
  constructor
  · rintro ⟨k, e⟩
    exact List.mem_of_getElem? e
  · intro h
    obtain ⟨k, hk, e⟩ := List.getElem_of_mem h
    exact ⟨k, by unfold nx; rw [show G.getD u [] = lAt G u from rfl, List.getElem?_eq_getElem hk, e]⟩
theorem Pth.re {G : List (List Nat)} {x z k : Nat} (h : Pth G x k z) : Re G x z := by
  induction h with
  | nil x => exact .refl x
  | cons e _ ih =>
    obtain ⟨j, hj⟩ := nx_mem.2 e
    exact ((Re.refl _).step hj).trans ih
theorem re_pth {G : List (List Nat)} {x z : Nat} (h : Re G x z) : ∃ k, Pth G x k z := by
  induction h with
  | refl => exact ⟨0, .nil _⟩
  | step _ e ih =>
    obtain ⟨k, hk⟩ := ih
    exact ⟨k + 1, hk.snoc (nx_mem.1 ⟨_, e⟩)⟩
/-- One edge is looked at; a row; the nodes up to k; all of them, r times. -/
def relE (a : List Nat) (u v : Nat) : List Nat := a.set u (min (gt a u) (gt a v + 1))
def relRow (a : List Nat) (u : Nat) (l : List Nat) : List Nat := l.foldl (fun a v => relE a u v) a
def relK (G : List (List Nat)) (a : List Nat) : Nat → List Nat
  | 0 => a
  | k + 1 => relRow (relK G a k) k (lAt G k)
def disR (G : List (List Nat)) (t : Nat) : Nat → List Nat
  | 0 => (List.replicate G.length G.length).set t 0
  | r + 1 => relK G (disR G t r) G.length
def disG (G : List (List Nat)) (t : Nat) : List Nat := disR G t G.length
theorem relE_len (a : List Nat) (u v : Nat) : (relE a u v).length = a.length := List.length_set
theorem relRow_len (u : Nat) : ∀ (l a : List Nat), (relRow a u l).length = a.length
  | [], _ => rfl
  | v :: l, a => (relRow_len u l (relE a u v)).trans (relE_len a u v)
theorem relK_len (G : List (List Nat)) (a : List Nat) : ∀ k, (relK G a k).length = a.length
  | 0 => rfl
  | k + 1 => (relRow_len k _ _).trans (relK_len G a k)
theorem disR_len (G : List (List Nat)) (t : Nat) : ∀ r, (disR G t r).length = G.length
  | 0 => by unfold disR; rw [List.length_set, List.length_replicate]
  | r + 1 => (relK_len G _ _).trans (disR_len G t r)
/-- What is noted is a path's length; nothing is greater than the count of the nodes; the target's is 0. -/
structure Dis (G : List (List Nat)) (t : Nat) (a : List Nat) : Prop where
  len : a.length = G.length
  le : ∀ u, u < G.length → gt a u ≤ G.length
  pth : ∀ u, u < G.length → gt a u < G.length → Pth G u (gt a u) t
  tgt : gt a t = 0
theorem relE_dis {G : List (List Nat)} {t : Nat} {a : List Nat} (h : Dis G t a) {u v : Nat} (hu : u < G.length) (hv : v < G.length) (e : v ∈ lAt G u) : Dis G t (relE a u v) := by
  have hul : u < a.length := by rw [h.len]; exact hu
  refine ⟨(relE_len _ _ _).trans h.len, fun x hx => ?_, fun x hx hlt => ?_, ?_⟩
  · unfold relE
    rw [gt_set hul]
    have h1 := h.le x hx
    have h2 := h.le u hu
    split
    · exact Nat.le_trans (Nat.min_le_left _ _) h2
    · exact h1
  · unfold relE at hlt ⊢
    rw [gt_set hul] at hlt ⊢
    by_cases ex : x = u
    · subst ex
      rw [if_pos rfl] at hlt ⊢
      by_cases hm : gt a x ≤ gt a v + 1
      · rw [Nat.min_eq_left hm] at hlt ⊢
        exact h.pth x hx hlt
      · rw [Nat.min_eq_right (by omega)] at hlt ⊢
        exact .cons e (h.pth v hv (by omega))
    · rw [if_neg ex] at hlt ⊢
      exact h.pth x hx hlt
  · unfold relE
    rw [gt_set hul]
    split
    · rename_i ex
      rw [← ex, h.tgt]
      exact Nat.zero_min _
    · exact h.tgt
theorem relE_le (a : List Nat) {u : Nat} (hu : u < a.length) (v x : Nat) : gt (relE a u v) x ≤ gt a x := by
  unfold relE
  rw [gt_set hu]
  split
  · rename_i ex
    rw [ex]
    exact Nat.min_le_left _ _
  · exact Nat.le_refl _
theorem relRow_dis {G : List (List Nat)} {t : Nat} {u : Nat} (hu : u < G.length) : ∀ (l : List Nat) {a : List Nat}, Dis G t a → (∀ v ∈ l, v < G.length ∧ v ∈ lAt G u) → Dis G t (relRow a u l)
  | [], _, h, _ => h
  | v :: l, _, h, hl => relRow_dis hu l (relE_dis h hu (hl v (List.mem_cons_self ..)).1 (hl v (List.mem_cons_self ..)).2) (fun w hw => hl w (List.mem_cons_of_mem _ hw))
theorem relRow_le (u : Nat) : ∀ (l : List Nat) {a : List Nat}, u < a.length → ∀ x, gt (relRow a u l) x ≤ gt a x
  | [], _, _, _ => Nat.le_refl _
  | v :: l, a, hu, x => Nat.le_trans (relRow_le u l (a := relE a u v) (by rw [relE_len]; exact hu) x) (relE_le a hu v x)
theorem relRow_edge (u : Nat) : ∀ (l : List Nat) {a : List Nat}, u < a.length → ∀ v ∈ l, gt (relRow a u l) u ≤ gt a v + 1
  | [], _, _, _, hv => by cases hv
  | w :: l, a, hu, v, hv => by
    have hu2 : u < (relE a u w).length := by rw [relE_len]; exact hu
    show gt (relRow (relE a u w) u l) u ≤ _
    rcases List.mem_cons.1 hv with rfl | h
    · refine Nat.le_trans (relRow_le u l hu2 u) ?_
      unfold relE
      rw [gt_set hu, if_pos rfl]
      exact Nat.min_le_right _ _
    · have h1 := relRow_edge u l hu2 v h
      have h2 := relE_le a hu w v
      omega
theorem row_valid {G : List (List Nat)} (hG : ValidG G) {u v : Nat} (h : v ∈ lAt G u) : v < G.length := by
  obtain ⟨k, hk⟩ := nx_mem.2 h
  exact hG u k v hk
theorem relK_dis {G : List (List Nat)} (hG : ValidG G) {t : Nat} {a : List Nat} (h : Dis G t a) : ∀ k, k ≤ G.length → Dis G t (relK G a k)
  | 0, _ => h
  | k + 1, hk => relRow_dis (by omega) _ (relK_dis hG h k (by omega)) (fun _ hv => ⟨row_valid hG hv, hv⟩)
theorem relK_le {G : List (List Nat)} {a : List Nat} (ha : a.length = G.length) : ∀ k, k ≤ G.length → ∀ x, gt (relK G a k) x ≤ gt a x
  | 0, _, _ => Nat.le_refl _
  | k + 1, hk, x => Nat.le_trans (relRow_le k _ (by rw [relK_len]; omega) x) (relK_le ha k (by omega) x)
theorem relK_edge {G : List (List Nat)} {a : List Nat} (ha : a.length = G.length) : ∀ k, k ≤ G.length → ∀ u v, u < k → v ∈ lAt G u → gt (relK G a k) u ≤ gt a v + 1
  | 0, _, _, _, h, _ => absurd h (Nat.not_lt_zero _)
  | k + 1, hk, u, v, hu, hv => by
    have hkl : k < (relK G a k).length := by rw [relK_len]; omega
    by_cases e : u = k
    · subst e
      exact Nat.le_trans (relRow_edge u _ hkl v hv) (Nat.succ_le_succ (relK_le ha u (by omega) v))
    · exact Nat.le_trans (relRow_le k _ hkl u) (relK_edge ha k (by omega) u v (by omega) hv)
theorem disR_dis {G : List (List Nat)} (hG : ValidG G) {t : Nat} (ht : t < G.length) : ∀ r, Dis G t (disR G t r)
  | 0 => by
    have hl : t < (List.replicate G.length G.length).length := by rw [List.length_replicate]; exact ht
    have hr : ∀ x, x < G.length → gt (List.replicate G.length G.length) x = G.length := fun x hx => by
      rw [gt_at (by rw [List.length_replicate]; exact hx), List.getElem_replicate]
    refine ⟨disR_len G t 0, fun x hx => ?_, fun x hx hlt => ?_, ?_⟩
    · unfold disR
      rw [gt_set hl]
      split
      · exact Nat.zero_le _
      · exact Nat.le_of_eq (hr x hx)
    · unfold disR at hlt ⊢
      rw [gt_set hl] at hlt ⊢
      by_cases e : x = t
      · rw [if_pos e, e]
        exact .nil t
      · rw [if_neg e, hr x hx] at hlt
        omega
    · unfold disR
      rw [gt_set hl, if_pos rfl]
  | r + 1 => relK_dis hG (disR_dis hG ht r) _ (Nat.le_refl _)
theorem disR_short {G : List (List Nat)} (hG : ValidG G) {t : Nat} (ht : t < G.length) : ∀ r k u, k ≤ r → u < G.length → Pth G u k t → gt (disR G t r) u ≤ k
  | 0, k, u, hk, hu, h => by
    have e : k = 0 := by omega
    subst e
    cases h
    exact Nat.le_of_eq (disR_dis hG ht 0).tgt
  | r + 1, k, u, hk, hu, h => by
    cases h with
    | nil => exact Nat.le_of_eq (disR_dis hG ht (r + 1)).tgt
    | cons e h' =>
      rename_i v k'
      have h1 := disR_short hG ht r k' v (by omega) (row_valid hG e) h'
      have h2 := relK_edge (disR_len G t r) G.length (Nat.le_refl _) u v hu e
      show gt (relK G (disR G t r) G.length) u ≤ _
      omega
/-- What the program's distances are. -/
structure DisF (G : List (List Nat)) (t : Nat) (a : List Nat) : Prop extends Dis G t a where
  fix : ∀ u v, u < G.length → v ∈ lAt G u → gt a u ≤ gt a v + 1
  short : ∀ u k, u < G.length → Pth G u k t → gt a u ≤ k
theorem disG_f {G : List (List Nat)} (hG : ValidG G) {t : Nat} (ht : t < G.length) : DisF G t (disG G t) := by
  have hD := disR_dis hG ht G.length
  have hfix : ∀ u v, u < G.length → v ∈ lAt G u → gt (disG G t) u ≤ gt (disG G t) v + 1 := fun u v hu e => by
    have hv := row_valid hG e
    show gt (disR G t G.length) u ≤ gt (disR G t G.length) v + 1
    by_cases h : gt (disR G t G.length) v < G.length
    · exact disR_short hG ht G.length _ u (by omega) hu (.cons e (hD.pth v hv h))
    · have := hD.le u hu
      omega
  refine ⟨hD, hfix, fun u k hu h => ?_⟩
  induction k generalizing u with
  | zero => cases h; exact Nat.le_of_eq hD.tgt
  | succ k ih =>
    cases h with
    | cons e h' =>
      have h1 := ih _ (row_valid hG e) h'
      have h2 := hfix u _ hu e
      omega
/-- From a node that is not the target a shortest path's next node is one nearer. -/
theorem DisF.next {G : List (List Nat)} (hG : ValidG G) {t : Nat} {a : List Nat} (h : DisF G t a) {u : Nat} (hu : u < G.length) (hlt : gt a u < G.length) (hp : 0 < gt a u) : ∃ v ∈ lAt G u, gt a v + 1 = gt a u := by
  have h1 := h.pth u hu hlt
  obtain ⟨k, hk⟩ : ∃ k, gt a u = k + 1 := ⟨gt a u - 1, by omega⟩
  rw [hk] at h1
  cases h1 with
  | cons e h' =>
    rename_i v
    have h2 := h.short v k (row_valid hG e) h'
    have h3 := h.fix u v hu e
    exact ⟨v, e, by omega⟩
/-- What can reach the target has a path with fewer edges than there are nodes. -/
theorem DisF.reach {G : List (List Nat)} {t : Nat} (ht : t < G.length) {a : List Nat} (h : DisF G t a) {u : Nat} (hu : u < G.length) (hr : Re G u t) : gt a u < G.length := by
  obtain ⟨k, hk⟩ := re_pth hr
  -- a shortest one
  have hex : ∃ m, Pth G u m t ∧ ∀ j, Pth G u j t → m ≤ j := by
    induction k using Nat.strongRecOn with
    | _ k ih =>
      by_cases hmin : ∀ j, Pth G u j t → k ≤ j
      · exact ⟨k, hk, hmin⟩
      · have : ∃ j, Pth G u j t ∧ j < k := by
          apply Classical.byContradiction
          intro hn
          exact hmin (fun j hj => Nat.le_of_not_lt (fun hlt => hn ⟨j, hj, hlt⟩))
        obtain ⟨j, hj, hlt⟩ := this
        exact ih j hlt hj
  obtain ⟨m, hm, hmin⟩ := hex
  have hall : ∀ i, ∃ y, i ≤ m → Pth G u i y ∧ Pth G y (m - i) t ∧ y < G.length := fun i => by
    by_cases hi : i ≤ m
    · have hm' := hm
      rw [show m = i + (m - i) by omega] at hm'
      obtain ⟨y, h1, h2⟩ := hm'.split
      have hy : y < G.length := h2.lt ht
      exact ⟨y, fun _ => ⟨h1, h2, hy⟩⟩
    · exact ⟨0, fun hc => absurd hc hi⟩
  obtain ⟨f, hf⟩ := Classical.axiomOfChoice hall
  have hd : ((List.range (m + 1)).map f).Nodup := by
    show List.Pairwise _ _
    rw [List.pairwise_iff_getElem]
    intro i j hi hj hij e
    rw [List.length_map, List.length_range] at hi hj
    rw [List.getElem_map, List.getElem_map, List.getElem_range, List.getElem_range] at e
    have h1 := (hf i (by omega)).1
    have h2 := (hf j (by omega)).2.1
    rw [← e] at h2
    have := hmin _ (h1.join h2)
    omega
  have h3 := nodup_lt G.length _ hd (fun x hx => by
    obtain ⟨y, hy, rfl⟩ := List.mem_map.1 hx
    exact (hf y (by have := List.mem_range.1 hy; omega)).2.2)
  rw [List.length_map, List.length_range] at h3
  have := h.short u m hu hm
  omega
end Go.Proofs.YtigmdiagdlbdpaaGreat
namespace Go.Proofs.YtigmdiagdlbdpaaGreat
/-- The first of a row's nodes that are nearest. -/
def minS (a : List Nat) (m v : Nat) : Nat := if gt a v < gt a m then v else m
def minF (a : List Nat) (l : List Nat) : Nat := (l.drop 1).foldl (minS a) (l.headD 0)
theorem minS_fold (a : List Nat) : ∀ (l : List Nat) (m : Nat), (l.foldl (minS a) m = m ∨ l.foldl (minS a) m ∈ l) ∧ gt a (l.foldl (minS a) m) ≤ gt a m ∧ ∀ v ∈ l, gt a (l.foldl (minS a) m) ≤ gt a v
  | [], m => ⟨.inl rfl, Nat.le_refl _, fun v hv => by cases hv⟩
  | x :: l, m => by
    obtain ⟨h1, h2, h3⟩ := minS_fold a l (minS a m x)
    have e : gt a (minS a m x) ≤ gt a m ∧ gt a (minS a m x) ≤ gt a x := by
      unfold minS
      split <;> omega
    refine ⟨?_, Nat.le_trans h2 e.1, fun v hv => ?_⟩
    · show (l.foldl (minS a) (minS a m x)) = m ∨ (l.foldl (minS a) (minS a m x)) ∈ x :: l
      rcases h1 with h | h
      · rw [h]
        unfold minS
        split
        · exact .inr (List.mem_cons_self ..)
        · exact .inl rfl
      · exact .inr (List.mem_cons_of_mem _ h)
    · rcases List.mem_cons.1 hv with rfl | h
      · exact Nat.le_trans h2 e.2
      · exact h3 v h
theorem minF_mem {a l : List Nat} (h : l ≠ []) : minF a l ∈ l := by
  cases l with
  | nil => exact absurd rfl h
  | cons x r =>
    show r.foldl (minS a) x ∈ _
    rcases (minS_fold a r x).1 with e | e
    · rw [e]; exact List.mem_cons_self ..
    · exact List.mem_cons_of_mem _ e
theorem minF_le {a l : List Nat} {v : Nat} (hv : v ∈ l) : gt a (minF a l) ≤ gt a v := by
  cases l with
  | nil => cases hv
  | cons x r =>
    show gt a (r.foldl (minS a) x) ≤ _
    rcases List.mem_cons.1 hv with rfl | e
    · exact (minS_fold a r v).2.1
    · exact (minS_fold a r x).2.2 v e
/-- The way on from the last node, till the start comes. -/
def lastN (c : List Nat) : Nat := c.getLastD 0
def cycF (G : List (List Nat)) (a : List Nat) (s : Nat) : Nat → List Nat → List Nat
  | 0, c => c
  | f + 1, c => if minF a (lAt G (lastN c)) = s then c else cycF G a s f (c ++ [minF a (lAt G (lastN c))])
def cycG (G : List (List Nat)) (s : Nat) : List Nat := cycF G (disG G s) s (G.length + 1) [s]
theorem lastN_app (c : List Nat) (x : Nat) : lastN (c ++ [x]) = x := by
  unfold lastN
  rw [List.getLastD_eq_getLast?, List.getLast?_append]
  rfl
theorem lastN_gt {c : List Nat} (h : 0 < c.length) : lastN c = gt c (c.length - 1) := by
  unfold lastN gt
  rw [List.getLastD_eq_getLast?, List.getLast?_eq_getElem?, List.getD_eq_getElem?_getD]
theorem gt_left {c : List Nat} {x i : Nat} (h : i < c.length) : gt (c ++ [x]) i = gt c i := by
  unfold gt
  rw [List.getD_eq_getElem?_getD, List.getD_eq_getElem?_getD, List.getElem?_append_left h]
theorem gt_last (c : List Nat) (x : Nat) : gt (c ++ [x]) c.length = x := by
  unfold gt
  rw [List.getD_eq_getElem?_getD, List.getElem?_append_right (Nat.le_refl _), Nat.sub_self]
  rfl
/-- What holds of the way on. -/
structure CyI (G : List (List Nat)) (a : List Nat) (s : Nat) (c : List Nat) : Prop where
  ne : 0 < c.length
  hd : gt c 0 = s
  lt : ∀ i, i < c.length → gt c i < G.length
  edge : ∀ i, i + 1 < c.length → gt c (i + 1) ∈ lAt G (gt c i)
  pos : ∀ i, 0 < i → i < c.length → 0 < gt a (gt c i) ∧ gt a (gt c i) < G.length
  dn : ∀ i, 0 < i → i + 1 < c.length → gt a (gt c (i + 1)) + 1 = gt a (gt c i)
/-- The start lies on a cycle. -/
def Onc (G : List (List Nat)) (s : Nat) : Prop := ∃ v ∈ lAt G s, Re G v s
theorem CyI.one {G : List (List Nat)} {a : List Nat} {s : Nat} (hs : s < G.length) : CyI G a s [s] :=
  ⟨Nat.one_pos, rfl, fun i hi => by have e : i = 0 := by simp at hi; omega
                                    subst e; exact hs, fun i hi => by simp at hi, fun i h0 hi => by simp at hi; omega, fun i h0 hi => by simp at hi⟩
section
variable {G : List (List Nat)} {a : List Nat} {s : Nat} {c : List Nat}
theorem DisF.zero (h : DisF G s a) (hs : s < G.length) {x : Nat} (hx : x < G.length) (e : gt a x = 0) : x = s := by
  have := h.pth x hx (by omega)
  rw [e] at this
  cases this
  rfl
/-- The next node: there is one, and it is one nearer (from the start: it can reach the start). -/
theorem CyI.next (h : CyI G a s c) (hG : ValidG G) (hD : DisF G s a) (hs : s < G.length) (ho : Onc G s) :
    lAt G (lastN c) ≠ [] ∧ minF a (lAt G (lastN c)) ∈ lAt G (lastN c) ∧ minF a (lAt G (lastN c)) < G.length ∧ gt a (minF a (lAt G (lastN c))) < G.length ∧ (1 < c.length → gt a (minF a (lAt G (lastN c))) + 1 = gt a (lastN c)) := by
  have hl : lastN c < G.length := by rw [lastN_gt h.ne]; exact h.lt _ (by have := h.ne; omega)
  have key : ∃ v ∈ lAt G (lastN c), gt a v < G.length ∧ (1 < c.length → gt a v + 1 = gt a (lastN c)) := by
    by_cases e : 1 < c.length
    · obtain ⟨p1, p2⟩ := h.pos (c.length - 1) (by omega) (by omega)
      rw [← lastN_gt h.ne] at p1 p2
      obtain ⟨v, hv, e2⟩ := hD.next hG hl p2 p1
      exact ⟨v, hv, by omega, fun _ => e2⟩
    · have e1 : c.length = 1 := by have := h.ne; omega
      have e2 : lastN c = s := by rw [lastN_gt h.ne, e1]; exact h.hd
      obtain ⟨v, hv, hr⟩ := ho
      rw [e2]
      exact ⟨v, hv, hD.reach hs (row_valid hG hv) hr, fun hc => absurd hc e⟩
  obtain ⟨v, hv, h1, h2⟩ := key
  have hne : lAt G (lastN c) ≠ [] := fun e => by rw [e] at hv; cases hv
  have hm := minF_mem (a := a) hne
  have hml := minF_le (a := a) hv
  refine ⟨hne, hm, row_valid hG hm, by omega, fun hc => ?_⟩
  have h3 := h2 hc
  have h4 := hD.fix _ _ hl hm
  omega
theorem CyI.push (h : CyI G a s c) (hG : ValidG G) (hD : DisF G s a) (hs : s < G.length) (ho : Onc G s) (hx : minF a (lAt G (lastN c)) ≠ s) : CyI G a s (c ++ [minF a (lAt G (lastN c))]) := by
  obtain ⟨-, h2, h3, h4, h5⟩ := h.next hG hD hs ho
  obtain ⟨x, hxe⟩ : ∃ x, minF a (lAt G (lastN c)) = x := ⟨_, rfl⟩
  rw [hxe] at h2 h3 h4 h5 hx ⊢
  have hne := h.ne
  have hlen : (c ++ [x]).length = c.length + 1 := by simp
  have hxp : 0 < gt a x := Nat.pos_of_ne_zero (fun e => hx (hD.zero hs h3 e))
  refine ⟨by omega, by rw [gt_left hne]; exact h.hd, fun i hi => ?_, fun i hi => ?_, fun i h0 hi => ?_, fun i h0 hi => ?_⟩
  · by_cases e : i = c.length
    · rw [e, gt_last]; exact h3
    · rw [gt_left (by omega)]; exact h.lt i (by omega)
  · by_cases e : i + 1 = c.length
    · rw [e, gt_last, gt_left (by omega)]
      rw [lastN_gt hne] at h2
      rw [show i = c.length - 1 by omega]
      exact h2
    · rw [gt_left (by omega), gt_left (by omega)]; exact h.edge i (by omega)
  · by_cases e : i = c.length
    · rw [e, gt_last]; exact ⟨hxp, h4⟩
    · rw [gt_left (by omega)]; exact h.pos i h0 (by omega)
  · by_cases e : i + 1 = c.length
    · rw [e, gt_last, gt_left (by omega), h5 (by omega), lastN_gt hne, show i = c.length - 1 by omega]
    · rw [gt_left (by omega), gt_left (by omega)]; exact h.dn i h0 (by omega)
/-- The way is not longer than there are nodes. -/
theorem CyI.sum (h : CyI G a s c) : ∀ i, 0 < i → i < c.length → gt a (gt c i) + i = gt a (gt c 1) + 1
  | 0, h0, _ => absurd h0 (Nat.lt_irrefl _)
  | 1, _, _ => rfl
  | i + 2, _, hi => by
    have h1 := h.sum (i + 1) (by omega) (by omega)
    have h2 := h.dn (i + 1) (by omega) (by omega)
    rw [show i + 1 + 1 = i + 2 from rfl] at h2
    omega
theorem CyI.short (h : CyI G a s c) : c.length ≤ G.length := by
  by_cases e : 1 < c.length
  · have h1 := h.sum (c.length - 1) (by omega) (by omega)
    have h2 := (h.pos (c.length - 1) (by omega) (by omega)).1
    have h3 := (h.pos 1 (by omega) e).2
    omega
  · have := h.lt 0 h.ne
    omega
/-- A cycle: each node leads to the next, the last to the first; no node twice. -/
structure Cyc (G : List (List Nat)) (c : List Nat) : Prop where
  ne : 0 < c.length
  lt : ∀ i, i < c.length → gt c i < G.length
  edge : ∀ i, i + 1 < c.length → gt c (i + 1) ∈ lAt G (gt c i)
  back : gt c 0 ∈ lAt G (gt c (c.length - 1))
  dif : ∀ i j, i < j → j < c.length → gt c i ≠ gt c j
theorem CyI.cyc (h : CyI G a s c) (ha : gt a s = 0) (hb : s ∈ lAt G (lastN c)) : Cyc G c := by
  refine ⟨h.ne, h.lt, h.edge, by rw [h.hd, ← lastN_gt h.ne]; exact hb, fun i j hij hj e => ?_⟩
  have h1 := h.sum j (by omega) hj
  by_cases h0 : i = 0
  · subst h0
    rw [h.hd] at e
    have := (h.pos j (by omega) hj).1
    rw [← e] at this
    omega
  · have h2 := h.sum i (by omega) (by omega)
    rw [e] at h2
    omega
theorem cycF_spec (hG : ValidG G) (hD : DisF G s a) (hs : s < G.length) (ho : Onc G s) : ∀ (f : Nat) (c : List Nat), CyI G a s c → G.length + 1 ≤ f + c.length → CyI G a s (cycF G a s f c) ∧ minF a (lAt G (lastN (cycF G a s f c))) = s
  | 0, c, h, hf => absurd h.short (by omega)
  | f + 1, c, h, hf => by
    unfold cycF
    by_cases e : minF a (lAt G (lastN c)) = s
    · rw [if_pos e]; exact ⟨h, e⟩
    · rw [if_neg e]
      exact cycF_spec hG hD hs ho f _ (h.push hG hD hs ho e) (by rw [List.length_append, List.length_singleton]; omega)
end
theorem cycG_cyc {G : List (List Nat)} (hG : ValidG G) {s : Nat} (hs : s < G.length) (ho : Onc G s) : Cyc G (cycG G s) ∧ gt (cycG G s) 0 = s := by
  have hD := disG_f hG hs
  obtain ⟨h1, h2⟩ := cycF_spec hG hD hs ho (G.length + 1) [s] (CyI.one hs) (by simp)
  have h3 := (h1.next hG hD hs ho).2.1
  rw [h2] at h3
  exact ⟨h1.cyc hD.tgt h3, h1.hd⟩
/-- The smallest of the shortest cycles; the starts up to k. -/
def cycS (G : List (List Nat)) (P : Nat → Bool) : Nat → List Nat
  | 0 => []
  | k + 1 => if P k then (if cycS G P k = [] ∨ (cycG G k).length < (cycS G P k).length then cycG G k else cycS G P k) else cycS G P k
theorem cycS_spec {G : List (List Nat)} (hG : ValidG G) {P : Nat → Bool} (hP : ∀ k, k < G.length → (P k = true ↔ Onc G k)) : ∀ k, k ≤ G.length → (cycS G P k = [] ↔ ∀ j, j < k → P j = false) ∧ (cycS G P k ≠ [] → Cyc G (cycS G P k))
  | 0, _ => ⟨⟨fun _ j hj => absurd hj (Nat.not_lt_zero _), fun _ => rfl⟩, fun h => absurd rfl h⟩
  | k + 1, hk => by
    obtain ⟨h1, h2⟩ := cycS_spec hG hP k (by omega)
    unfold cycS
    cases hp : P k with
    | false =>
      simp only [Bool.false_eq_true, if_false]
      refine ⟨h1.trans ⟨fun h j hj => ?_, fun h j hj => h j (by omega)⟩, h2⟩
      by_cases e : j = k
      · rw [e]; exact hp
      · exact h j (by omega)
    | true =>
      simp only [if_true]
      have hc := (cycG_cyc hG (show k < G.length by omega) ((hP k (by omega)).1 hp)).1
      have hne : cycG G k ≠ [] := fun e => by have := hc.ne; rw [e] at this; exact absurd this (Nat.lt_irrefl _)
      have hno : ¬ ∀ j, j < k + 1 → P j = false := fun h => by have := h k (by omega); rw [hp] at this; cases this
      by_cases e : cycS G P k = [] ∨ (cycG G k).length < (cycS G P k).length
      · rw [if_pos e]
        exact ⟨⟨fun h => absurd h hne, fun h => absurd h hno⟩, fun _ => hc⟩
      · rw [if_neg e]
        have e1 : cycS G P k ≠ [] := fun h => e (.inl h)
        exact ⟨⟨fun h => absurd h e1, fun h => absurd h hno⟩, h2⟩
end Go.Proofs.YtigmdiagdlbdpaaGreat
namespace Go.Proofs.YtigmdiagdlbdpaaGreat
abbrev Nm := List UInt8
/-- A module: its name, what it imports. -/
structure Md where
  nm : Nm
  im : List Nm
def mdAt (l : List Md) (k : Nat) : Md := l.getD k ⟨[], []⟩
theorem mdAt_get {l : List Md} {k : Nat} (h : k < l.length) : mdAt l k = l[k] := by unfold mdAt; rw [List.getD_eq_getElem?_getD, List.getElem?_eq_getElem h]; rfl
def nAt (ns : List Nm) (k : Nat) : Nm := ns.getD k []
theorem nAt_get {l : List Nm} {k : Nat} (h : k < l.length) : nAt l k = l[k] := by unfold nAt; rw [List.getD_eq_getElem?_getD, List.getElem?_eq_getElem h]; rfl
abbrev leN : Nm → Nm → Bool := fun x y => decide (x ≤ y)
theorem leN_trans (a b c : Nm) (h1 : leN a b = true) (h2 : leN b c = true) : leN a c = true := by
  simp only [leN, decide_eq_true_eq] at *
  exact List.le_trans h1 h2
theorem leN_total (a b : Nm) : (leN a b || leN b a) = true := by
  simp only [leN, Bool.or_eq_true, decide_eq_true_eq]
  exact List.le_total a b
theorem sort_perm {l l' : List Nm} (h : l.Perm l') : l.mergeSort leN = l'.mergeSort leN := by
  refine List.Perm.eq_of_pairwise (le := fun a b => leN a b = true) (fun a b _ _ h1 h2 => ?_) (List.pairwise_mergeSort leN_trans leN_total l) (List.pairwise_mergeSort leN_trans leN_total l') (((List.mergeSort_perm l leN).trans h).trans (List.mergeSort_perm l' leN).symm)
  simp only [leN, decide_eq_true_eq] at h1 h2
  exact List.le_antisymm h1 h2
/-- The names in order. -/
def nsP (l : List Md) : List Nm := (l.map Md.nm).mergeSort leN
theorem nsP_perm (l : List Md) : (nsP l).Perm (l.map Md.nm) := List.mergeSort_perm _ _
theorem nsP_len (l : List Md) : (nsP l).length = l.length := by rw [(nsP_perm l).length_eq, List.length_map]
theorem nsP_mem {l : List Md} {s : Nm} : s ∈ nsP l ↔ s ∈ l.map Md.nm := (nsP_perm l).mem_iff
theorem nsP_same {l l' : List Md} (h : l.Perm l') : nsP l = nsP l' := sort_perm (h.map _)
/-- Where a name stands. -/
def nodeP (ns : List Nm) (s : Nm) : Nat := ns.findIdx (· == s)
theorem nodeP_lt {ns : List Nm} {s : Nm} (h : s ∈ ns) : nodeP ns s < ns.length := List.findIdx_lt_length_of_exists ⟨s, h, by simp⟩
theorem nodeP_at {ns : List Nm} {s : Nm} (h : s ∈ ns) : nAt ns (nodeP ns s) = s := by
  rw [nAt_get (nodeP_lt h)]
  have := List.findIdx_getElem (xs := ns) (p := (· == s)) (w := nodeP_lt h)
  exact eq_of_beq this
theorem nodup_get {ns : List Nm} (h : ns.Nodup) {i j : Nat} (hi : i < ns.length) (hj : j < ns.length) (e : nAt ns i = nAt ns j) : i = j := by
  rw [nAt_get hi, nAt_get hj] at e
  have h' := List.pairwise_iff_getElem.1 h
  rcases Nat.lt_trichotomy i j with h1 | h1 | h1
  · exact absurd e (h' i j hi hj h1)
  · exact h1
  · exact absurd e.symm (h' j i hj hi h1)
theorem nodeP_nAt {ns : List Nm} (h : ns.Nodup) {i : Nat} (hi : i < ns.length) : nodeP ns (nAt ns i) = i := by
  have hm : nAt ns i ∈ ns := by rw [nAt_get hi]; exact List.getElem_mem hi
  exact nodup_get h (nodeP_lt hm) hi (nodeP_at hm)
/-- A module's imports as nodes, ascending. -/
def rowP (ns : List Nm) (im : List Nm) : List Nat := (List.range ns.length).filter (fun j => im.contains (nAt ns j))
theorem rowP_mem {ns im : List Nm} {j : Nat} : j ∈ rowP ns im ↔ j < ns.length ∧ nAt ns j ∈ im := by
  unfold rowP
  rw [List.mem_filter, List.mem_range, List.contains_iff_mem]
theorem rowP_len (ns im : List Nm) : (rowP ns im).length ≤ ns.length := by
  unfold rowP
  exact Nat.le_trans (List.length_filter_le _ _) (by rw [List.length_range]; exact Nat.le_refl _)
/-- The edges after k modules. -/
def edP (ns : List Nm) (l : List Md) : Nat → List (List Nat)
  | 0 => List.replicate ns.length []
  | k + 1 => (edP ns l k).set (nodeP ns (mdAt l k).nm) (rowP ns (mdAt l k).im)
theorem edP_len (ns : List Nm) (l : List Md) : ∀ k, (edP ns l k).length = ns.length
  | 0 => List.length_replicate
  | k + 1 => by unfold edP; rw [List.length_set]; exact edP_len ns l k
theorem edP_at {ns : List Nm} {l : List Md} (hd : (l.map Md.nm).Nodup) (hm : ∀ m ∈ l, m.nm ∈ ns) : ∀ k, k ≤ l.length → ∀ j, j < k → lAt (edP ns l k) (nodeP ns (mdAt l j).nm) = rowP ns (mdAt l j).im
  | 0, _, j, hj => absurd hj (Nat.not_lt_zero _)
  | k + 1, hk, j, hj => by
    have hmk : (mdAt l k).nm ∈ ns := hm _ (by rw [mdAt_get (by omega)]; exact List.getElem_mem _)
    have hmj : (mdAt l j).nm ∈ ns := hm _ (by rw [mdAt_get (by omega)]; exact List.getElem_mem _)
    have hlt := nodeP_lt hmk
    unfold edP
    rw [lAt_set (by rw [edP_len]; exact hlt)]
    by_cases e : j = k
    · subst e
      rw [if_pos rfl]
    · rw [if_neg (fun hc => ?_)]
      · exact edP_at hd hm k (by omega) j (by omega)
      · have h1 : (mdAt l j).nm = (mdAt l k).nm := by rw [← nodeP_at hmj, ← nodeP_at hmk, hc]
        have h2 := List.pairwise_iff_getElem.1 hd j k (by rw [List.length_map]; omega) (by rw [List.length_map]; omega) (by omega)
        rw [List.getElem_map, List.getElem_map, ← mdAt_get (by omega), ← mdAt_get (by omega)] at h2
        exact h2 h1
/-- The graph of the modules. -/
def grP (l : List Md) : List (List Nat) := edP (nsP l) l l.length
theorem grP_len (l : List Md) : (grP l).length = l.length := by unfold grP; rw [edP_len, nsP_len]
theorem nodup_mem_eq {l : List Md} (hd : (l.map Md.nm).Nodup) {m m' : Md} (h : m ∈ l) (h' : m' ∈ l) (e : m.nm = m'.nm) : m = m' := by
  obtain ⟨i, hi, rfl⟩ := List.getElem_of_mem h
  obtain ⟨j, hj, rfl⟩ := List.getElem_of_mem h'
  have hd' := List.pairwise_iff_getElem.1 hd
  rcases Nat.lt_trichotomy i j with h1 | h1 | h1
  · exact absurd (by rw [List.getElem_map, List.getElem_map]; exact e) (hd' i j (by rw [List.length_map]; exact hi) (by rw [List.length_map]; exact hj) h1)
  · subst h1; rfl
  · exact absurd (by rw [List.getElem_map, List.getElem_map]; exact e.symm) (hd' j i (by rw [List.length_map]; exact hj) (by rw [List.length_map]; exact hi) h1)
theorem grP_row {l : List Md} (hd : (l.map Md.nm).Nodup) {m : Md} (hm : m ∈ l) : lAt (grP l) (nodeP (nsP l) m.nm) = rowP (nsP l) m.im := by
  obtain ⟨i, hi, e⟩ := List.getElem_of_mem hm
  have := edP_at (ns := nsP l) hd (fun m hm => nsP_mem.2 (List.mem_map_of_mem hm)) l.length (Nat.le_refl _) i hi
  rw [mdAt_get hi, e] at this
  exact this
/-- The module of a node. -/
theorem node_md {l : List Md} {i : Nat} (hi : i < l.length) : ∃ m ∈ l, m.nm = nAt (nsP l) i := by
  have h1 : nAt (nsP l) i ∈ nsP l := by rw [nAt_get (by rw [nsP_len]; exact hi)]; exact List.getElem_mem _
  obtain ⟨m, hm, e⟩ := List.mem_map.1 (nsP_mem.1 h1)
  exact ⟨m, hm, e⟩
theorem nsP_nodup {l : List Md} (hd : (l.map Md.nm).Nodup) : (nsP l).Nodup := (nsP_perm l).nodup_iff.2 hd
theorem grP_at {l : List Md} (hd : (l.map Md.nm).Nodup) {m : Md} (hm : m ∈ l) {i : Nat} (hi : i < l.length) (e : m.nm = nAt (nsP l) i) : lAt (grP l) i = rowP (nsP l) m.im := by
  have h1 := grP_row hd hm
  rw [e, nodeP_nAt (nsP_nodup hd) (by rw [nsP_len]; exact hi)] at h1
  exact h1
theorem lAt_ext {L M : List (List Nat)} (hl : L.length = M.length) (h : ∀ i, i < L.length → lAt L i = lAt M i) : L = M := by
  apply List.ext_getElem hl
  intro i h1 h2
  have := h i h1
  rw [show lAt L i = L.getD i [] from rfl, show lAt M i = M.getD i [] from rfl, List.getD_eq_getElem?_getD, List.getD_eq_getElem?_getD, List.getElem?_eq_getElem h1, List.getElem?_eq_getElem h2] at this
  exact this
/-- The order of the list does not matter. -/
theorem grP_same {l l' : List Md} (hp : l.Perm l') (hd : (l.map Md.nm).Nodup) : grP l = grP l' := by
  have hd' : (l'.map Md.nm).Nodup := (hp.map _).nodup_iff.1 hd
  apply lAt_ext
  · rw [grP_len, grP_len, hp.length_eq]
  · intro i hi
    rw [grP_len] at hi
    obtain ⟨m, hm, e⟩ := node_md hi
    rw [grP_at hd hm hi e, grP_at hd' (hp.mem_iff.1 hm) (by rw [← hp.length_eq]; exact hi) (by rw [e, nsP_same hp]), nsP_same hp]
theorem grP_valid (l : List Md) : ValidG (grP l) := by
  have key : ∀ k i, ∀ x ∈ lAt (edP (nsP l) l k) i, x < (nsP l).length := by
    intro k
    induction k with
    | zero =>
      intro i x hx
      have : lAt (edP (nsP l) l 0) i = [] := by
        show (List.replicate _ []).getD i [] = _
        rw [List.getD_eq_getElem?_getD, List.getElem?_replicate]
        split <;> rfl
      rw [this] at hx
      cases hx
    | succ k ih =>
      intro i x hx
      unfold edP at hx
      by_cases hlt : nodeP (nsP l) (mdAt l k).nm < (edP (nsP l) l k).length
      · rw [lAt_set hlt] at hx
        split at hx
        · exact (rowP_mem.1 hx).1
        · exact ih i x hx
      · rw [List.set_eq_of_length_le (by omega)] at hx
        exact ih i x hx
  intro u k v e
  rw [grP_len, ← nsP_len l]
  exact key l.length u v (nx_mem.1 ⟨k, e⟩)
/-- The first fault: a name that stands twice; an import that is no module. -/
def twiceP : List Md → List Nm → Option Nm
  | [], _ => none
  | m :: l, seen => if m.nm ∈ seen then some m.nm else twiceP l (m.nm :: seen)
def lackP (ns : List Nm) (im : List Nm) : Option Nm := im.find? (fun s => !ns.contains s)
def lacksP (ns : List Nm) : List Md → Option Nm
  | [] => none
  | m :: l => match lackP ns m.im with
    | some s => some s
    | none => lacksP ns l
theorem twiceP_none : ∀ {l : List Md} {seen : List Nm}, twiceP l seen = none ↔ (l.map Md.nm).Nodup ∧ ∀ m ∈ l, m.nm ∉ seen
  | [], _ => ⟨fun _ => ⟨List.nodup_nil, fun _ hm => by cases hm⟩, fun _ => rfl⟩
  | m :: l, seen => by
    unfold twiceP
    by_cases h : m.nm ∈ seen
    · rw [if_pos h]
      exact ⟨(fun hc => by cases hc), fun hc => absurd h (hc.2 m (List.mem_cons_self ..))⟩
    · rw [if_neg h, twiceP_none]
      rw [List.map_cons, List.nodup_cons]
      constructor
      · rintro ⟨h1, h2⟩
        refine ⟨⟨fun hc => ?_, h1⟩, fun x hx => ?_⟩
        · obtain ⟨x, hx, e⟩ := List.mem_map.1 hc
          exact h2 x hx (by rw [e]; exact List.mem_cons_self ..)
        · rcases List.mem_cons.1 hx with rfl | hx'
          · exact h
          · exact fun hc => h2 x hx' (List.mem_cons_of_mem _ hc)
      · rintro ⟨⟨h1, h2⟩, h3⟩
        refine ⟨h2, fun x hx hc => ?_⟩
        rcases List.mem_cons.1 hc with e | hc'
        · exact h1 (by rw [← e]; exact List.mem_map_of_mem hx)
        · exact h3 x (List.mem_cons_of_mem _ hx) hc'
theorem lackP_none {ns im : List Nm} : lackP ns im = none ↔ ∀ s ∈ im, s ∈ ns := by
  unfold lackP
  rw [List.find?_eq_none]
  constructor
  · intro h s hs
    have := h s hs
    simpa using this
  · intro h s hs
    have := h s hs
    simpa using this
theorem lacksP_none {ns : List Nm} : ∀ {l : List Md}, lacksP ns l = none ↔ ∀ m ∈ l, ∀ s ∈ m.im, s ∈ ns
  | [] => ⟨(fun _ _ hm => by cases hm), fun _ => rfl⟩
  | m :: l => by
    unfold lacksP
    cases h : lackP ns m.im with
    | some s =>
      simp only [reduceCtorEq, false_iff]
      intro hc
      have := lackP_none.2 (hc m (List.mem_cons_self ..))
      rw [h] at this
      cases this
    | none =>
      simp only
      rw [lacksP_none]
      refine ⟨fun hc x hx => ?_, fun hc x hx => hc x (List.mem_cons_of_mem _ hx)⟩
      rcases List.mem_cons.1 hx with rfl | hx'
      · exact lackP_none.1 h
      · exact hc x hx'
end Go.Proofs.YtigmdiagdlbdpaaGreat
