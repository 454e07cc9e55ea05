/-
  PLAIN. The cycle, what is needed, who uses: in names.
-/
import Derived.Test.YtigmdiagdlbdpaaGreatMhg
import Derived.Test.YtigmdiagdlbdpaaGreatMhk
namespace Go.Proofs.YtigmdiagdlbdpaaGreat
theorem conA_code {l : List Md} {c : Nat} {s : Nm} (h : conA l = some (c, s)) : c ≠ 18 := by
  unfold conA at h
  split at h
  · cases h; decide
  · unfold conF at h
    split at h
    · cases h; decide
    · split at h
      · cases h; decide
      · cases h
/-- An edge is an import. -/
theorem edge_imp {l : List Md} (hd : (l.map Md.nm).Nodup) {x y : Nat} (hx : x < l.length) (hy : y ∈ lAt (grP l) x) : nAt (nsP l) y ∈ impP l (nAt (nsP l) x) := by
  obtain ⟨m, hm, e⟩ := node_md hx
  rw [grP_at hd hm hx e] at hy
  exact impP_mem.2 ⟨m, hm, e, (rowP_mem.1 hy).2⟩
theorem imp_edge {l : List Md} (hd : (l.map Md.nm).Nodup) (hi : ∀ m ∈ l, ∀ s ∈ m.im, s ∈ l.map Md.nm) {x : Nat} (hx : x < l.length) {t : Nm} (ht : t ∈ impP l (nAt (nsP l) x)) : t ∈ nsP l ∧ nodeP (nsP l) t ∈ lAt (grP l) x := by
  obtain ⟨m, hm, e, hs⟩ := impP_mem.1 ht
  have hn : t ∈ nsP l := nsP_mem.2 (hi m hm t hs)
  refine ⟨hn, ?_⟩
  rw [grP_at hd hm hx e, rowP_mem]
  exact ⟨nodeP_lt hn, by rw [nodeP_at hn]; exact hs⟩
structure CycN (l : List Md) (c : List Nm) : Prop where
  on : ∀ i, i < c.length → nAt c ((i + 1) % c.length) ∈ impP l (nAt c i)
  dif : ∀ i, i < c.length → nAt c i ∉ c.take i
theorem nAt_map {ns : List Nm} {c : List Nat} {i : Nat} (h : i < c.length) : nAt (c.map (nAt ns)) i = nAt ns (gt c i) := by
  rw [nAt_get (by rw [List.length_map]; exact h), List.getElem_map, gt_at h]
theorem cycN_of {l : List Md} (hd : (l.map Md.nm).Nodup) {c : List Nat} (h : Cyc (grP l) c) : CycN l (c.map (nAt (nsP l))) := by
  have hlt : ∀ i, i < c.length → gt c i < l.length := fun i hi => by have := h.lt i hi; rwa [grP_len] at this
  constructor
  · intro i hi
    rw [List.length_map] at hi ⊢
    rw [nAt_map hi, nAt_map (Nat.mod_lt _ h.ne)]
    refine edge_imp hd (hlt i hi) ?_
    by_cases e : i + 1 < c.length
    · rw [Nat.mod_eq_of_lt e]
      exact h.edge i e
    · have e2 : i + 1 = c.length := by omega
      rw [e2, Nat.mod_self]
      have := h.back
      rwa [show c.length - 1 = i by omega] at this
  · intro i hi hc
    rw [List.length_map] at hi
    obtain ⟨j, hj, e⟩ := List.getElem_of_mem hc
    rw [List.length_take, List.length_map] at hj
    rw [List.getElem_take, List.getElem_map, nAt_map hi] at e
    refine h.dif j i (by omega) hi ?_
    refine nodup_get (nsP_nodup hd) (by rw [nsP_len]; exact hlt j (by omega)) (by rw [nsP_len]; exact hlt i hi) ?_
    rw [gt_at (by omega)]
    exact e
/-- What is needed, who uses. -/
theorem relM_mem {E : List (List Nat)} {l : List Md} (hE : ValidG E) (hEl : E.length = l.length) (hd : (l.map Md.nm).Nodup) {nm t : Nm} (hn : nm ∈ nsP l) : t ∈ relM E l nm ↔ t ∈ nsP l ∧ t ≠ nm ∧ nodeP (nsP l) t ∈ reachL (intE E) (nodeP (nsP l) nm : Nat) := by
  have hnd := nsP_nodup hd
  have hi : nodeP (nsP l) nm < E.length := by rw [hEl, ← nsP_len l]; exact nodeP_lt hn
  unfold relM relN
  constructor
  · intro h
    obtain ⟨x, hx, e⟩ := List.mem_map.1 h
    obtain ⟨h1, h2⟩ := List.mem_filter.1 hx
    have hxl : x < (nsP l).length := by
      have := ((mem_reachL hE hi).1 h1).1
      rw [nsP_len, ← hEl]
      exact this
    have h3 : nodeP (nsP l) t = x := by rw [← e]; exact nodeP_nAt hnd hxl
    refine ⟨by rw [← e, nAt_get hxl]; exact List.getElem_mem hxl, fun hc => ?_, by rw [h3]; exact h1⟩
    rw [hc] at h3
    rw [h3] at h2
    simp at h2
  · rintro ⟨h1, h2, h3⟩
    refine List.mem_map.2 ⟨nodeP (nsP l) t, List.mem_filter.2 ⟨h3, ?_⟩, nodeP_at h1⟩
    rw [bne_iff_ne]
    intro hc
    exact h2 (by rw [← nodeP_at h1, ← nodeP_at hn, hc])
/-- The law's words on what is needed. -/
structure DualN (l : List Md) (a b : Nm) : Prop where
  inv : decide (b ∈ relM (grP l) l a) = decide (a ∈ relM (rvG (grP l)) l b)
  dir : ∀ t ∈ impP l a, t ∈ nsP l ∧ t ∈ relM (grP l) l a ∧ ∀ s ∈ relM (grP l) l t, s ∈ relM (grP l) l a
  any : (0 < (impP l a).length) ↔ 0 < (relM (grP l) l a).length
theorem dualN_of {l : List Md} (h : Good l) {a b : Nm} (ha : a ∈ nsP l) (hb : b ∈ nsP l) : DualN l a b := by
  have hG := grP_valid l
  have hGl := grP_len l
  have hno := (cyP_nil hG).1 h.ac
  have hia : nodeP (nsP l) a < (grP l).length := by rw [hGl, ← nsP_len l]; exact nodeP_lt ha
  have hib : nodeP (nsP l) b < (grP l).length := by rw [hGl, ← nsP_len l]; exact nodeP_lt hb
  have hR := fun {t : Nm} {nm : Nm} (hn : nm ∈ nsP l) => relM_mem (t := t) hG hGl h.nd hn
  have hdirect : ∀ t ∈ impP l a, t ∈ nsP l ∧ nodeP (nsP l) t ∈ lAt (grP l) (nodeP (nsP l) a) := fun t ht => imp_edge h.nd h.im (by rw [← hGl]; exact hia) (by rw [nodeP_at ha]; exact ht)
  have hmem : ∀ t ∈ impP l a, t ∈ relM (grP l) l a ∧ ∀ s ∈ relM (grP l) l t, s ∈ relM (grP l) l a := fun t ht => by
    obtain ⟨h1, h2⟩ := hdirect t ht
    obtain ⟨j, hj⟩ := nx_mem.2 h2
    have hre : Re (grP l) (nodeP (nsP l) a) (nodeP (nsP l) t) := (Re.refl _).step hj
    have htl : nodeP (nsP l) t < (grP l).length := row_valid hG h2
    have hne : ∀ s, Re (grP l) (nodeP (nsP l) t) (nodeP (nsP l) s) → s ≠ a := fun s hs hc => by
      rw [hc] at hs
      exact hno _ hia ⟨_, h2, hs⟩
    refine ⟨(hR ha).2 ⟨h1, hne t (Re.refl _), (mem_reachL hG hia).2 ⟨htl, hre⟩⟩, fun s hs => ?_⟩
    obtain ⟨q1, q2, q3⟩ := (hR h1).1 hs
    obtain ⟨q4, q5⟩ := (mem_reachL hG htl).1 q3
    exact (hR ha).2 ⟨q1, hne s q5, (mem_reachL hG hia).2 ⟨q4, hre.trans q5⟩⟩
  constructor
  · have h1 := hR (t := b) ha
    have h2 := relM_mem (t := a) (rvG_valid hG) (by rw [rvG_len]; exact hGl) h.nd hb
    have h3 := reach_dual hG hia hib
    have : (b ∈ relM (grP l) l a) ↔ a ∈ relM (rvG (grP l)) l b := by
      rw [h1, h2]
      constructor
      · rintro ⟨_, q2, q3⟩
        exact ⟨ha, fun hc => q2 hc.symm, h3.2 q3⟩
      · rintro ⟨_, q2, q3⟩
        exact ⟨hb, fun hc => q2 hc.symm, h3.1 q3⟩
    exact decide_eq_decide.2 this
  · exact fun t ht => ⟨(hdirect t ht).1, hmem t ht⟩
  · constructor
    · intro hp
      obtain ⟨t, ht⟩ := List.exists_mem_of_length_pos hp
      exact List.length_pos_of_mem (hmem t ht).1
    · intro hp
      obtain ⟨t, ht⟩ := List.exists_mem_of_length_pos hp
      obtain ⟨q1, q2, q3⟩ := (hR ha).1 ht
      obtain ⟨q4, q5⟩ := (mem_reachL hG hia).1 q3
      obtain ⟨k, hk⟩ := re_pth q5
      cases k with
      | zero =>
        have hc : ∀ x y, Pth (grP l) x 0 y → x = y := fun x y hp => by cases hp; rfl
        exact absurd (by rw [← nodeP_at q1, ← nodeP_at ha, hc _ _ hk]) q2
      | succ k =>
        cases hk with
        | cons e _ =>
          have := edge_imp h.nd (x := nodeP (nsP l) a) (by rw [← hGl]; exact hia) e
          rw [nodeP_at ha] at this
          exact List.length_pos_of_mem this
end Go.Proofs.YtigmdiagdlbdpaaGreat
