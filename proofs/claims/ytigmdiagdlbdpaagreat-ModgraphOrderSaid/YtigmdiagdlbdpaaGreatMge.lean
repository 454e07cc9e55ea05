/-
  PLAIN. Modules without a cycle: the order of the components is one of single modules, each after its imports.
-/
import Derived.Test.YtigmdiagdlbdpaaGreatMga
namespace Go.Proofs.YtigmdiagdlbdpaaGreat
/-- A node lies on a cycle, as the program asks it. -/
def cyB (G : List (List Nat)) (k : Nat) : Bool := (lAt G k).any (fun v => gt (numbersS G [k]) v == gt (numbersS G [k]) k)
theorem nums_re {G : List (List Nat)} {st N : List Nat} (h : Nums G st N) {x y : Nat} (hr : Re G x y) : gt N x ≠ 0 → gt N y ≠ 0 ∧ gt N y ≤ gt N x := by
  induction hr with
  | refl => exact fun h0 => ⟨h0, Nat.le_refl _⟩
  | step _ e ih =>
    intro h0
    obtain ⟨h1, h2⟩ := ih h0
    obtain ⟨h3, h4⟩ := h.down _ _ _ h1 e
    exact ⟨h3, Nat.le_trans h4 h2⟩
theorem cyB_iff {G : List (List Nat)} (hG : ValidG G) {k : Nat} (hk : k < G.length) : cyB G k = true ↔ Onc G k := by
  have hN := nums_ok hG [k] (fun v hv => by rw [List.mem_singleton.1 hv]; exact hk)
  have h0 := hN.all k (List.mem_singleton.2 rfl)
  unfold cyB Onc
  rw [List.any_eq_true]
  constructor
  · rintro ⟨v, hv, e⟩
    obtain ⟨j, hj⟩ := nx_mem.2 hv
    have h1 := hN.down k j v h0 hj
    exact ⟨v, hv, hN.same v k h1.1 (eq_of_beq e)⟩
  · rintro ⟨v, hv, hr⟩
    obtain ⟨j, hj⟩ := nx_mem.2 hv
    have h1 := hN.down k j v h0 hj
    have h2 := nums_re hN hr h1.1
    exact ⟨v, hv, by rw [beq_iff_eq]; omega⟩
/-- The smallest of the shortest cycles. -/
def cyP (G : List (List Nat)) : List Nat := cycS G (cyB G) G.length
theorem cyP_nil {G : List (List Nat)} (hG : ValidG G) : cyP G = [] ↔ ∀ k, k < G.length → ¬ Onc G k := by
  have h := (cycS_spec hG (P := cyB G) (fun k hk => cyB_iff hG hk) G.length (Nat.le_refl _)).1
  unfold cyP
  rw [h]
  constructor
  · intro h1 k hk hc
    have := h1 k hk
    rw [(cyB_iff hG hk).2 hc] at this
    cases this
  · intro h1 k hk
    cases e : cyB G k with
    | false => rfl
    | true => exact absurd ((cyB_iff hG hk).1 e) (h1 k hk)
theorem cyP_cyc {G : List (List Nat)} (hG : ValidG G) (h : cyP G ≠ []) : Cyc G (cyP G) := (cycS_spec hG (P := cyB G) (fun k hk => cyB_iff hG hk) G.length (Nat.le_refl _)).2 h
/-- Way to another node and back: a cycle. -/
theorem onc_of {G : List (List Nat)} {x y : Nat} (h : Re G x y) (k : Re G y x) (hne : x ≠ y) : Onc G x := by
  obtain ⟨n, hn⟩ := re_pth h
  cases hn with
  | nil => exact absurd rfl hne
  | cons e h' => exact ⟨_, e, h'.re.trans k⟩
theorem comp_one {G C : List (List Nat)} (hP : Parts G C) (hn : ∀ k, k < G.length → ¬ Onc G k) {i : Nat} (hi : i < C.length) : lAt C i = [(lAt C i).headD 0] := by
  have hne := hP.ne i hi
  have hlt := hP.lt i hi
  have hasc := hP.asc i hi
  have htog := hP.tog i
  obtain ⟨c, hc⟩ : ∃ c, lAt C i = c := ⟨_, rfl⟩
  rw [hc] at hne hlt hasc htog ⊢
  match c, hne with
  | [x], _ => rfl
  | x :: y :: r, _ =>
    exfalso
    have h1 : x < y := by
      rw [List.pairwise_cons] at hasc
      exact hasc.1 y (List.mem_cons_self ..)
    have hx : x ∈ x :: y :: r := List.mem_cons_self ..
    have hy : y ∈ x :: y :: r := List.mem_cons_of_mem _ (List.mem_cons_self ..)
    obtain ⟨h2, h3⟩ := (htog x y hi hx (hlt y hy)).1 hy
    exact hn x (hlt x hx) (onc_of h2 h3 (by omega))
theorem flat_eq {G C : List (List Nat)} (hP : Parts G C) (hn : ∀ k, k < G.length → ¬ Onc G k) : C.flatten = C.map (fun c => c.headD 0) := by
  have key : ∀ (L : List (List Nat)), (∀ i, i < L.length → lAt L i = [(lAt L i).headD 0]) → L.flatten = L.map (fun c => c.headD 0) := by
    intro L
    induction L with
    | nil => intro _; rfl
    | cons c L ih =>
      intro h
      have h0 := h 0 (by simp)
      rw [show lAt (c :: L) 0 = c from rfl] at h0
      rw [List.flatten_cons, List.map_cons, ih (fun i hi => h (i + 1) (by simp; omega))]
      rw [h0]
      rfl
  exact key C (fun i hi => comp_one hP hn hi)
/-- The order: all nodes, none twice, each after those that it leads to. -/
structure Topo (G : List (List Nat)) (F : List Nat) : Prop where
  len : F.length = G.length
  lt : ∀ i, i < F.length → gt F i < G.length
  dif : ∀ i j, i < j → j < F.length → gt F i ≠ gt F j
  pre : ∀ i, i < F.length → ∀ v ∈ lAt G (gt F i), ∃ j, j < i ∧ gt F j = v
theorem topo_of {G C : List (List Nat)} (hG : ValidG G) (hP : Parts G C) (hn : ∀ k, k < G.length → ¬ Onc G k) : Topo G C.flatten := by
  rw [flat_eq hP hn]
  have hl : (C.map (fun c => c.headD 0)).length = C.length := List.length_map _
  have hg : ∀ i, i < C.length → gt (C.map (fun c => c.headD 0)) i = (lAt C i).headD 0 := fun i hi => by
    rw [gt_at (by rw [hl]; exact hi), List.getElem_map]
    show C[i].headD 0 = (C.getD i []).headD 0
    rw [List.getD_eq_getElem?_getD, List.getElem?_eq_getElem hi]
    rfl
  have hone : ∀ i, i < C.length → ∀ x, x ∈ lAt C i ↔ x = gt (C.map (fun c => c.headD 0)) i := fun i hi x => by
    rw [hg i hi, comp_one hP hn hi]
    exact List.mem_singleton
  have hmem : ∀ i, i < C.length → gt (C.map (fun c => c.headD 0)) i ∈ lAt C i := fun i hi => (hone i hi _).2 rfl
  have hlt : ∀ i, i < C.length → gt (C.map (fun c => c.headD 0)) i < G.length := fun i hi => hP.lt i hi _ (hmem i hi)
  have hdif : ∀ i j, i < j → j < C.length → gt (C.map (fun c => c.headD 0)) i ≠ gt (C.map (fun c => c.headD 0)) j := fun i j hij hj e => by
    have h1 := hmem i (by omega)
    rw [e] at h1
    have := hP.dis i j _ (by omega) hj h1 (hmem j hj)
    omega
  refine ⟨?_, fun i hi => hlt i (by rw [hl] at hi; exact hi), fun i j hij hj => hdif i j hij (by rw [hl] at hj; exact hj), fun i hi v hv => ?_⟩
  · -- as many as nodes
    have h1 : C.length ≤ G.length := by
      have hd : (C.map (fun c => c.headD 0)).Nodup := by
        show List.Pairwise _ _
        rw [List.pairwise_iff_getElem]
        intro i j hi hj hij
        have := hdif i j hij (by rw [hl] at hj; exact hj)
        rw [gt_at hi, gt_at hj] at this
        exact this
      have := nodup_lt G.length _ hd (fun x hx => by
        obtain ⟨i, hi, e⟩ := List.getElem_of_mem hx
        rw [← e, ← gt_at hi]
        exact hlt i (by rw [hl] at hi; exact hi))
      rwa [hl] at this
    have h2 : G.length ≤ C.length := by
      have hex : ∀ x, ∃ i, x < G.length → i < C.length ∧ x ∈ lAt C i := fun x => by
        by_cases hx : x < G.length
        · obtain ⟨i, hi, hm⟩ := hP.all x hx
          exact ⟨i, fun _ => ⟨hi, hm⟩⟩
        · exact ⟨0, fun hc => absurd hc hx⟩
      obtain ⟨f, hf⟩ := Classical.axiomOfChoice hex
      have hd : ((List.range G.length).map f).Nodup := by
        show List.Pairwise _ _
        rw [List.pairwise_iff_getElem]
        intro i j hi hj hij e
        rw [List.length_map, List.length_range] at hi hj
        rw [List.getElem_map, List.getElem_map, List.getElem_range, List.getElem_range] at e
        obtain ⟨a1, a2⟩ := hf i hi
        obtain ⟨b1, b2⟩ := hf j hj
        rw [(hone _ a1 _)] at a2
        rw [(hone _ b1 _), ← e, ← a2] at b2
        omega
      have := nodup_lt C.length _ hd (fun x hx => by
        obtain ⟨y, hy, rfl⟩ := List.mem_map.1 hx
        exact (hf y (List.mem_range.1 hy)).1)
      rwa [List.length_map, List.length_range] at this
    omega
  · rw [hl] at hi
    obtain ⟨k, hk⟩ := nx_mem.2 hv
    obtain ⟨j, hj, hvj⟩ := hP.all v (row_valid hG hv)
    have h1 := hP.edge i j _ k v hi hj hk (hmem i hi) hvj
    have h2 := (hone j hj v).1 hvj
    refine ⟨j, ?_, h2.symm⟩
    apply Nat.lt_of_le_of_ne h1
    intro e
    subst e
    rw [← h2] at hv
    exact hn v (row_valid hG hv) ⟨v, hv, .refl v⟩
/-- The order of the modules' names. -/
def ordM (l : List Md) : List Nm := (compsG (grP l)).flatten.map (nAt (nsP l))
/-- What the list is free of. -/
structure Good (l : List Md) : Prop where
  nd : (l.map Md.nm).Nodup
  im : ∀ m ∈ l, ∀ s ∈ m.im, s ∈ l.map Md.nm
  ac : cyP (grP l) = []
theorem Good.topo {l : List Md} (h : Good l) : Topo (grP l) (compsG (grP l)).flatten := topo_of (grP_valid l) (comps_parts (grP_valid l)) ((cyP_nil (grP_valid l)).1 h.ac)
theorem Good.len {l : List Md} (h : Good l) : (ordM l).length = l.length := by
  unfold ordM
  rw [List.length_map, h.topo.len, grP_len]
theorem Good.at {l : List Md} (h : Good l) {i : Nat} (hi : i < (ordM l).length) : nAt (ordM l) i = nAt (nsP l) (gt (compsG (grP l)).flatten i) := by
  have hi' : i < (compsG (grP l)).flatten.length := by unfold ordM at hi; rw [List.length_map] at hi; exact hi
  have key : ∀ (F : List Nat) (hF : i < F.length), nAt (F.map (nAt (nsP l))) i = nAt (nsP l) (gt F i) := fun F hF => by
    rw [nAt_get (by rw [List.length_map]; exact hF), List.getElem_map, gt_at hF]
  exact key _ hi'
theorem Good.dif {l : List Md} (h : Good l) {i j : Nat} (hij : i < j) (hj : j < (ordM l).length) : nAt (ordM l) i ≠ nAt (ordM l) j := by
  rw [h.at (by omega), h.at hj]
  intro e
  have hl := h.topo.len
  have hlen := h.len
  rw [grP_len] at hl
  have h1 := h.topo.lt i (by omega)
  have h2 := h.topo.lt j (by omega)
  rw [grP_len] at h1 h2
  exact h.topo.dif i j hij (by omega) (nodup_get (nsP_nodup h.nd) (by rw [nsP_len]; exact h1) (by rw [nsP_len]; exact h2) e)
/-- Each name is a module's, whose imports stand ahead of it. -/
theorem Good.pre {l : List Md} (h : Good l) {i : Nat} (hi : i < (ordM l).length) {m : Md} (hm : m ∈ l) (e : m.nm = nAt (ordM l) i) : ∀ s ∈ m.im, ∃ j, j < i ∧ nAt (ordM l) j = s := by
  intro s hs
  have hl := h.topo.len
  have hlen := h.len
  rw [grP_len] at hl
  have h1 := h.topo.lt i (by omega)
  rw [grP_len] at h1
  rw [h.at hi] at e
  have hrow := grP_at h.nd hm h1 e
  have hsn : s ∈ nsP l := nsP_mem.2 (h.im m hm s hs)
  have hmem : nodeP (nsP l) s ∈ lAt (grP l) (gt (compsG (grP l)).flatten i) := by
    rw [hrow, rowP_mem]
    exact ⟨nodeP_lt hsn, by rw [nodeP_at hsn]; exact hs⟩
  obtain ⟨j, hj, ej⟩ := h.topo.pre i (by omega) _ hmem
  exact ⟨j, hj, by rw [h.at (by omega), ej, nodeP_at hsn]⟩
theorem ordM_same {l l' : List Md} (hp : l.Perm l') (hd : (l.map Md.nm).Nodup) : ordM l = ordM l' := by
  unfold ordM
  rw [grP_same hp hd, nsP_same hp]
end Go.Proofs.YtigmdiagdlbdpaaGreat
