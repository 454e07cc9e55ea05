/-
  PLAIN. The next of the order is the first that can come; the levels: each module lies one above the highest that it imports.
  WALKS. The reference: within, Order.
  WALKS. The reference: Levels.
  WALKS. ModgraphOrder.
-/
import Derived.Test.YtigmdiagdlbdpaaGreatMhr
import Derived.Test.YtigmdiagdlbdpaaGreatMhk
import Derived.Test.YtigmdiagdlbdpaaGreatGor8
import Derived.Test.YtigmdiagdlbdpaaGreatMgt
import Derived.Test.YtigmdiagdlbdpaaGreatMie
import Derived.StillTailTactics
namespace Go.Proofs.YtigmdiagdlbdpaaGreat
theorem Good.ok {l : List Md} (h : Good l) : Ok0 l := ⟨h.nd, h.im⟩
/-- The components are single nodes: those of the order. -/
theorem Good.one {l : List Md} (h : Good l) : (compsG (grP l)).length = l.length ∧ ∀ k, k < l.length → lAt (compsG (grP l)) k = [gt (compsG (grP l)).flatten k] := by
  have hP := comps_parts (grP_valid l)
  have hn := (cyP_nil (grP_valid l)).1 h.ac
  have ht := h.topo.len
  have he := flat_eq hP hn
  have hl : (compsG (grP l)).length = l.length := by rw [he, List.length_map, grP_len] at ht; exact ht
  refine ⟨hl, fun k hk => ?_⟩
  have h1 := comp_one hP hn (i := k) (by omega)
  have h2 : gt (compsG (grP l)).flatten k = (lAt (compsG (grP l)) k).headD 0 := by
    rw [he, gt_at (by rw [List.length_map]; omega), List.getElem_map]
    show _ = ((compsG (grP l)).getD k []).headD 0
    rw [List.getD_eq_getElem?_getD, List.getElem?_eq_getElem (by omega)]
    rfl
  rw [h2]
  exact h1
theorem Good.pos {l : List Md} (h : Good l) {k : Nat} (hk : k < l.length) : gt (compsG (grP l)).flatten k < l.length := by
  have h1 := h.topo.lt k (by rw [h.topo.len, grP_len]; exact hk)
  rwa [grP_len] at h1
theorem mem_take_at {l : List Nm} {k : Nat} {t : Nm} (h : t ∈ l.take k) : ∃ j, j < k ∧ j < l.length ∧ nAt l j = t := by
  obtain ⟨j, hj, e⟩ := List.getElem_of_mem h
  rw [List.length_take] at hj
  rw [List.getElem_take, ← nAt_get (by omega)] at e
  exact ⟨j, by omega, by omega, e⟩
/-- Whoever stands ahead of the next can't come yet. -/
theorem Good.least {l : List Md} (h : Good l) {k i : Nat} (hk : k < l.length) (hi : i < gt (compsG (grP l)).flatten k) (hno : nAt (nsP l) i ∉ (ordM l).take k) : ∃ t ∈ impP l (nAt (nsP l) i), t ∉ (ordM l).take k := by
  by_cases hx : ∃ t ∈ impP l (nAt (nsP l) i), t ∉ (ordM l).take k
  · exact hx
  exfalso
  have hall : ∀ t ∈ impP l (nAt (nsP l) i), t ∈ (ordM l).take k := fun t ht => by
    by_cases h1 : t ∈ (ordM l).take k
    · exact h1
    · exact absurd ⟨t, ht, h1⟩ hx
  have hpk := h.pos hk
  obtain ⟨hl, h1⟩ := h.one
  have hol := h.len
  have hG := grP_valid l
  have hin : ∀ j, j < k → ∀ x, x < l.length → (nAt (ordM l) j = nAt (nsP l) x ↔ x ∈ lAt (compsG (grP l)) j) := fun j hj x hx => by
    rw [h1 j (by omega), List.mem_singleton, h.at (by omega)]
    constructor
    · intro e
      exact (nodup_get (nsP_nodup h.nd) (by rw [nsP_len]; exact h.pos (by omega)) (by rw [nsP_len]; exact hx) e).symm
    · intro e
      rw [e]
  have hle := (comps_greedy hG).least k i (by omega) (by rw [grP_len]; omega) (fun j hj hm => hno (by
    rw [← (hin j hj i (by omega)).2 hm]
    exact mem_takeN hj (by omega))) (fun y hy => by
    have key : y < l.length ∧ (y = i ∨ ∃ j, j < k ∧ y ∈ lAt (compsG (grP l)) j) := by
      induction hy with
      | refl => exact ⟨by omega, .inl rfl⟩
      | step h2 e ih =>
        rename_i y z q
        obtain ⟨hyl, ih⟩ := ih
        have hz : z ∈ lAt (grP l) y := List.mem_of_getElem? e
        have hzl : z < l.length := by have := row_valid hG hz; rwa [grP_len] at this
        refine ⟨hzl, .inr ?_⟩
        rcases ih with e2 | ⟨j, hj, hm⟩
        · subst e2
          obtain ⟨j, hj, hjl, e3⟩ := mem_take_at (hall _ (edge_im h.ok hyl hz))
          exact ⟨j, hj, (hin j hj z hzl).1 e3⟩
        · rw [h1 j (by omega), List.mem_singleton] at hm
          subst hm
          obtain ⟨j', hj', e3⟩ := h.topo.pre j (by rw [h.topo.len, grP_len]; omega) z hz
          exact ⟨j', by omega, by rw [h1 j' (by omega), e3]; exact List.mem_singleton_self _⟩
    rcases key.2 with e | e
    · right; rw [e]; exact .refl i
    · exact .inl e)
  rw [h1 k hk] at hle
  have hle' : gt (compsG (grP l)).flatten k ≤ i := hle
  omega
theorem rowL_other {u : Nat} : ∀ (r l : List Nat) {y : Nat}, y ≠ u → gt (rowL u l r) y = gt l y
  | [], _, _, _ => rfl
  | v :: r, l, y, h => by
    show gt (rowL u (l.set u _) r) y = _
    rw [rowL_other r _ h]
    by_cases hu : u < l.length
    · rw [gt_set hu, if_neg h]
    · rw [List.set_eq_of_length_le (by omega)]
theorem rowL_own {u : Nat} : ∀ (r l : List Nat), u < l.length → u ∉ r → gt l u ≤ gt (rowL u l r) u ∧ (∀ v ∈ r, gt l v + 1 ≤ gt (rowL u l r) u) ∧ (gt (rowL u l r) u = gt l u ∨ ∃ v ∈ r, gt (rowL u l r) u = gt l v + 1)
  | [], l, _, _ => ⟨Nat.le_refl _, fun v hv => absurd hv (List.not_mem_nil), .inl rfl⟩
  | v :: r, l, hu, hn => by
    have hr : u ∉ r := fun hc => hn (List.mem_cons_of_mem _ hc)
    obtain ⟨h1, h2, h3⟩ := rowL_own r (l.set u (max (gt l u) (gt l v + 1))) (by rw [List.length_set]; exact hu) hr
    have e0 : gt (l.set u (max (gt l u) (gt l v + 1))) u = max (gt l u) (gt l v + 1) := by rw [gt_set hu, if_pos rfl]
    have ew : ∀ w ∈ r, gt (l.set u (max (gt l u) (gt l v + 1))) w = gt l w := fun w hw => by rw [gt_set hu, if_neg (fun (e : w = u) => hr (by rw [← e]; exact hw))]
    rw [e0] at h1 h3
    show gt l u ≤ gt (rowL u (l.set u (max (gt l u) (gt l v + 1))) r) u ∧ (∀ w ∈ v :: r, gt l w + 1 ≤ gt (rowL u (l.set u (max (gt l u) (gt l v + 1))) r) u) ∧ (gt (rowL u (l.set u (max (gt l u) (gt l v + 1))) r) u = gt l u ∨ ∃ w ∈ v :: r, gt (rowL u (l.set u (max (gt l u) (gt l v + 1))) r) u = gt l w + 1)
    refine ⟨by omega, fun w hw => ?_, ?_⟩
    · rcases List.mem_cons.1 hw with e | e
      · subst e; omega
      · have := h2 w e; rw [ew w e] at this; exact this
    · rcases h3 with h3 | ⟨w, hw, h3⟩
      · by_cases hm : gt l u ≤ gt l v + 1
        · exact .inr ⟨v, List.mem_cons_self, by omega⟩
        · exact .inl (by omega)
      · rw [ew w hw] at h3
        exact .inr ⟨w, List.mem_cons_of_mem _ hw, h3⟩
def lonM (l : List Md) : List Nat := lonK (grP l) (compsG (grP l)) l.length (compsG (grP l)).length
theorem Good.lonI {l : List Md} (h : Good l) : ∀ k, k ≤ l.length → (∀ j, j < k → (∀ v ∈ lAt (grP l) (gt (compsG (grP l)).flatten j), gt (lonK (grP l) (compsG (grP l)) l.length k) v < gt (lonK (grP l) (compsG (grP l)) l.length k) (gt (compsG (grP l)).flatten j)) ∧ (gt (lonK (grP l) (compsG (grP l)) l.length k) (gt (compsG (grP l)).flatten j) = 0 ∨ ∃ v ∈ lAt (grP l) (gt (compsG (grP l)).flatten j), gt (lonK (grP l) (compsG (grP l)) l.length k) (gt (compsG (grP l)).flatten j) = gt (lonK (grP l) (compsG (grP l)) l.length k) v + 1)) ∧ ∀ j, k ≤ j → j < l.length → gt (lonK (grP l) (compsG (grP l)) l.length k) (gt (compsG (grP l)).flatten j) = 0
  | 0, _ => ⟨fun j hj => absurd hj (Nat.not_lt_zero _), fun j _ _ => zget _ _⟩
  | k + 1, hk => by
    obtain ⟨h1, h2⟩ := h.lonI k (by omega)
    obtain ⟨hl, ho⟩ := h.one
    have hFl : (compsG (grP l)).flatten.length = l.length := by rw [h.topo.len, grP_len]
    rw [lonK_succ (by omega)]
    unfold lonS
    rw [ho k (by omega)]
    have hlen := lonK_len (grP l) (compsG (grP l)) l.length k
    have hpk := h.pos (k := k) (by omega)
    have hdif : ∀ i j, i < l.length → j < l.length → i ≠ j → gt (compsG (grP l)).flatten i ≠ gt (compsG (grP l)).flatten j := fun i j hi hj hij => by
      rcases Nat.lt_or_gt_of_ne hij with e | e
      · exact h.topo.dif i j e (by omega)
      · exact fun e2 => h.topo.dif j i e (by omega) e2.symm
    have hpre := h.topo.pre k (by omega)
    show (∀ j, j < k + 1 → (∀ v ∈ lAt (grP l) (gt (compsG (grP l)).flatten j), gt (rowL (gt (compsG (grP l)).flatten k) (lonK (grP l) (compsG (grP l)) l.length k) (lAt (grP l) (gt (compsG (grP l)).flatten k))) v < gt (rowL (gt (compsG (grP l)).flatten k) (lonK (grP l) (compsG (grP l)) l.length k) (lAt (grP l) (gt (compsG (grP l)).flatten k))) (gt (compsG (grP l)).flatten j)) ∧ (gt (rowL (gt (compsG (grP l)).flatten k) (lonK (grP l) (compsG (grP l)) l.length k) (lAt (grP l) (gt (compsG (grP l)).flatten k))) (gt (compsG (grP l)).flatten j) = 0 ∨ ∃ v ∈ lAt (grP l) (gt (compsG (grP l)).flatten j), gt (rowL (gt (compsG (grP l)).flatten k) (lonK (grP l) (compsG (grP l)) l.length k) (lAt (grP l) (gt (compsG (grP l)).flatten k))) (gt (compsG (grP l)).flatten j) = gt (rowL (gt (compsG (grP l)).flatten k) (lonK (grP l) (compsG (grP l)) l.length k) (lAt (grP l) (gt (compsG (grP l)).flatten k))) v + 1)) ∧ ∀ j, k + 1 ≤ j → j < l.length → gt (rowL (gt (compsG (grP l)).flatten k) (lonK (grP l) (compsG (grP l)) l.length k) (lAt (grP l) (gt (compsG (grP l)).flatten k))) (gt (compsG (grP l)).flatten j) = 0
    have hself : gt (compsG (grP l)).flatten k ∉ lAt (grP l) (gt (compsG (grP l)).flatten k) := fun hc => by
      obtain ⟨j, hj, e⟩ := hpre _ hc
      exact hdif j k (by omega) (by omega) (by omega) e
    obtain ⟨r0, r1, r2⟩ := rowL_own (lAt (grP l) (gt (compsG (grP l)).flatten k)) (lonK (grP l) (compsG (grP l)) l.length k) (by omega) hself
    have hoth : ∀ y, y ≠ gt (compsG (grP l)).flatten k → gt (rowL (gt (compsG (grP l)).flatten k) (lonK (grP l) (compsG (grP l)) l.length k) (lAt (grP l) (gt (compsG (grP l)).flatten k))) y = gt (lonK (grP l) (compsG (grP l)) l.length k) y := fun y hy => rowL_other _ _ hy
    have h2k := h2 k (Nat.le_refl _) (by omega)
    refine ⟨fun j hj => ?_, fun j hj hjl => ?_⟩
    · by_cases e : j = k
      · subst e
        have hv : ∀ v ∈ lAt (grP l) (gt (compsG (grP l)).flatten j), v ≠ gt (compsG (grP l)).flatten j := fun v hv e => hself (e ▸ hv)
        refine ⟨fun v hm => ?_, ?_⟩
        · rw [hoth v (hv v hm)]
          have := r1 v hm
          omega
        · rcases r2 with r2 | ⟨v, hm, r2⟩
          · left; omega
          · right
            exact ⟨v, hm, by rw [hoth v (hv v hm)]; exact r2⟩
      · have hjk : j < k := by omega
        have hv : ∀ v ∈ lAt (grP l) (gt (compsG (grP l)).flatten j), v ≠ gt (compsG (grP l)).flatten k := fun v hv e => by
          obtain ⟨j', hj', e'⟩ := h.topo.pre j (by omega) v hv
          exact hdif j' k (by omega) (by omega) (by omega) (e'.trans e)
        obtain ⟨a1, a2⟩ := h1 j hjk
        have hjn := hdif j k (by omega) (by omega) e
        refine ⟨fun v hm => ?_, ?_⟩
        · rw [hoth v (hv v hm), hoth _ hjn]
          exact a1 v hm
        · rw [hoth _ hjn]
          rcases a2 with a2 | ⟨v, hm, a2⟩
          · exact .inl a2
          · exact .inr ⟨v, hm, by rw [hoth v (hv v hm)]; exact a2⟩
    · rw [hoth _ (hdif j k hjl (by omega) (by omega))]
      exact h2 j (by omega) hjl
theorem Good.surj {l : List Md} (h : Good l) {x : Nat} (hx : x < l.length) : ∃ j, j < l.length ∧ gt (compsG (grP l)).flatten j = x := by
  obtain ⟨hl, ho⟩ := h.one
  obtain ⟨i, hi, hm⟩ := (comps_parts (grP_valid l)).all x (by rw [grP_len]; exact hx)
  rw [ho i (by omega), List.mem_singleton] at hm
  exact ⟨i, by omega, hm.symm⟩
theorem Good.lon {l : List Md} (h : Good l) {x : Nat} (hx : x < l.length) : (∀ v ∈ lAt (grP l) x, gt (lonM l) v < gt (lonM l) x) ∧ (gt (lonM l) x = 0 ∨ ∃ v ∈ lAt (grP l) x, gt (lonM l) x = gt (lonM l) v + 1) := by
  obtain ⟨j, hj, e⟩ := h.surj hx
  have h1 := (h.lonI l.length (Nat.le_refl _)).1 j hj
  unfold lonM
  rw [h.one.1]
  rw [e] at h1
  exact h1
theorem levK_at {l : List Nat} : ∀ k r, lAt (levK l k) r = (List.range k).filter (fun x => decide (gt l x = r))
  | 0, r => rfl
  | k + 1, r => by
    rw [levK_succ, List.range_succ, List.filter_append, ← levK_at k r]
    unfold putL
    rw [lAt_set (by rw [growL_len]; omega)]
    by_cases e : r = gt l k
    · rw [if_pos e, grow_at, ← e]
      simp [e]
    · rw [if_neg e, grow_at]
      have e' : ¬ gt l k = r := fun h => e h.symm
      simp [e']
theorem levK_lt {l : List Nat} : ∀ k, (∀ x, x < k → gt l x < (levK l k).length) ∧ ∀ r, r < (levK l k).length → ∃ x, x < k ∧ r ≤ gt l x
  | 0 => ⟨fun x hx => absurd hx (Nat.not_lt_zero _), fun r hr => absurd hr (Nat.not_lt_zero _)⟩
  | k + 1 => by
    obtain ⟨h1, h2⟩ := levK_lt (l := l) k
    rw [levK_succ, putL_len]
    refine ⟨fun x hx => ?_, fun r hr => ?_⟩
    · by_cases e : x = k
      · subst e; omega
      · have := h1 x (by omega); omega
    · by_cases e : r < (levK l k).length
      · obtain ⟨x, hx, h3⟩ := h2 r e
        exact ⟨x, by omega, h3⟩
      · exact ⟨k, by omega, by omega⟩
theorem Good.noBad {l : List Md} (h : Good l) : (compsG (grP l)).any (badG (grP l)) = false := by
  obtain ⟨hl, ho⟩ := h.one
  refine no_bad (fun i hi => ?_)
  rw [ho i (by omega)]
  unfold badG
  rw [Bool.or_eq_false_iff]
  refine ⟨by simp, ?_⟩
  rw [decide_eq_false_iff_not]
  intro hc
  have h1 := (h.lon (h.pos (k := i) (by omega))).1 _ hc
  exact Nat.lt_irrefl _ h1
/-- How high a name lies. -/
def hiM (l : List Md) (s : Nm) : Nat := gt (lonM l) (nodeP (nsP l) s)
theorem Good.hi_lt {l : List Md} (h : Good l) {s t : Nm} (hs : s ∈ nsP l) (ht : t ∈ impP l s) : t ∈ nsP l ∧ hiM l t < hiM l s := by
  have h1 := nodeP_lt hs
  rw [nsP_len] at h1
  rw [← nodeP_at hs] at ht
  obtain ⟨h2, h3⟩ := im_edge h.ok h1 ht
  exact ⟨h2, (h.lon h1).1 _ h3⟩
theorem Good.hi_eq {l : List Md} (h : Good l) {s : Nm} (hs : s ∈ nsP l) : hiM l s = 0 ∨ ∃ t ∈ impP l s, hiM l s = hiM l t + 1 := by
  have h1 := nodeP_lt hs
  rw [nsP_len] at h1
  rcases (h.lon h1).2 with h2 | ⟨v, hv, h2⟩
  · exact .inl h2
  · refine .inr ⟨nAt (nsP l) v, ?_, ?_⟩
    · have := edge_im h.ok h1 hv
      rwa [nodeP_at hs] at this
    · have hvl := row_valid (grP_valid l) hv
      rw [grP_len] at hvl
      unfold hiM
      rw [nodeP_nAt (nsP_nodup h.nd) (by rw [nsP_len]; exact hvl)]
      exact h2
def rowN (l : List Md) (r : Nat) : List Nm := (nsP l).filter (fun s => decide (hiM l s = r))
theorem ns_range {ns : List Nm} : ns = (List.range ns.length).map (nAt ns) := by
  refine List.ext_getElem (by rw [List.length_map, List.length_range]) (fun i h1 h2 => ?_)
  rw [List.getElem_map, List.getElem_range, nAt_get h1]
theorem lev_rows {L : List Nat} {n : Nat} {ns : List Nm} {f : Nm → Nat} (hn : ns.length = n) (hf : ∀ x, x < n → f (nAt ns x) = gt L x) : (levK L n).map (fun r => r.map (nAt ns)) = (List.range (levK L n).length).map (fun r => ns.filter (fun s => decide (f s = r))) := by
  have hrow : ∀ r, (lAt (levK L n) r).map (nAt ns) = ns.filter (fun s => decide (f s = r)) := fun r => by
    rw [levK_at]
    have e : ns.filter (fun s => decide (f s = r)) = ((List.range ns.length).map (nAt ns)).filter (fun s => decide (f s = r)) := congrArg _ ns_range
    rw [e, List.filter_map, hn]
    refine congrArg _ (List.filter_congr (fun x hx => ?_))
    have hxl := List.mem_range.1 hx
    show _ = decide (f (nAt ns x) = r)
    rw [hf x hxl]
  generalize hK : levK L n = K at hrow ⊢
  refine List.ext_getElem (by rw [List.length_map, List.length_map, List.length_range]) (fun r h1 h2 => ?_)
  have h3 : r < K.length := by rw [List.length_map] at h1; exact h1
  rw [List.getElem_map, List.getElem_map, List.getElem_range, ← hrow r]
  refine congrArg _ ?_
  show _ = K.getD r []
  rw [List.getD_eq_getElem?_getD, List.getElem?_eq_getElem h3]
  rfl
theorem Good.levM_l {l : List Md} (h : Good l) : levM l = (levK (lonM l) l.length).map (fun r => r.map (nAt (nsP l))) := by
  unfold levM levelsG lonM
  rw [h.noBad, if_neg Bool.false_ne_true]
theorem Good.levM_eq {l : List Md} (h : Good l) : levM l = (List.range (levM l).length).map (rowN l) := by
  have hll : (levM l).length = (levK (lonM l) l.length).length := by rw [h.levM_l, List.length_map]
  rw [hll, h.levM_l]
  exact lev_rows (nsP_len l) (fun x hx => by
    unfold hiM
    rw [nodeP_nAt (nsP_nodup h.nd) (by rw [nsP_len]; exact hx)])
theorem Good.lev_lt {l : List Md} (h : Good l) : (∀ s ∈ nsP l, hiM l s < (levM l).length) ∧ ∀ r, r < (levM l).length → ∃ s ∈ nsP l, r ≤ hiM l s := by
  have hll : (levM l).length = (levK (lonM l) l.length).length := by
    rw [h.levM_l, List.length_map]
  rw [hll]
  obtain ⟨h1, h2⟩ := levK_lt (l := lonM l) l.length
  refine ⟨fun s hs => h1 _ (by have := nodeP_lt hs; rwa [nsP_len] at this), fun r hr => ?_⟩
  obtain ⟨x, hx, h3⟩ := h2 r hr
  have hxn : x < (nsP l).length := by rw [nsP_len]; exact hx
  refine ⟨nAt (nsP l) x, by rw [nAt_get hxn]; exact List.getElem_mem hxn, ?_⟩
  unfold hiM
  rw [nodeP_nAt (nsP_nodup h.nd) hxn]
  exact h3
/-- What lies below a height, by heights. -/
def doneN (l : List Md) (r : Nat) : List Nm := (List.range r).flatMap (rowN l)
theorem doneN_succ (l : List Md) (r : Nat) : doneN l (r + 1) = doneN l r ++ rowN l r := by
  unfold doneN
  rw [List.range_succ, List.flatMap_append]
  simp
theorem doneN_mem {l : List Md} {r : Nat} {s : Nm} : s ∈ doneN l r ↔ s ∈ nsP l ∧ hiM l s < r := by
  unfold doneN rowN
  rw [List.mem_flatMap]
  constructor
  · rintro ⟨q, hq, hs⟩
    rw [List.mem_filter, decide_eq_true_eq] at hs
    exact ⟨hs.1, by have := List.mem_range.1 hq; omega⟩
  · rintro ⟨h1, h2⟩
    exact ⟨_, List.mem_range.2 h2, by rw [List.mem_filter, decide_eq_true_eq]; exact ⟨h1, rfl⟩⟩
theorem filt_split {ns : List Nm} {f : Nm → Nat} {r : Nat} : (ns.filter (fun s => decide (f s < r + 1))).length = (ns.filter (fun s => decide (f s < r))).length + (ns.filter (fun s => decide (f s = r))).length := by
  induction ns with
  | nil => rfl
  | cons s ns ih =>
    rw [List.filter_cons, List.filter_cons, List.filter_cons]
    by_cases h1 : f s < r
    · have h2 : f s < r + 1 := by omega
      have h3 : ¬ f s = r := by omega
      simp [h1, h2, h3]
      omega
    · by_cases h3 : f s = r
      · have h2 : f s < r + 1 := by omega
        simp [h1, h2, h3]
        omega
      · have h2 : ¬ f s < r + 1 := by omega
        simp only [h1, h2, h3, decide_false]
        simpa using ih
theorem doneN_len (l : List Md) : ∀ r, (doneN l r).length = ((nsP l).filter (fun s => decide (hiM l s < r))).length
  | 0 => by
    have e : (nsP l).filter (fun s => decide (hiM l s < 0)) = [] := by
      rw [List.filter_eq_nil_iff]
      intro s _
      simp
    rw [e]
    rfl
  | r + 1 => by
    rw [doneN_succ, List.length_append, doneN_len l r, filt_split]
    rfl
theorem doneN_le (l : List Md) (r : Nat) : (doneN l r).length ≤ l.length := by
  rw [doneN_len, ← nsP_len l]
  exact List.length_filter_le _ _
theorem Good.done_more {l : List Md} (h : Good l) {r : Nat} (hr : r < (levM l).length) : (doneN l r).length < l.length := by
  obtain ⟨s, hs, h1⟩ := h.lev_lt.2 r hr
  rw [doneN_len, ← nsP_len l]
  exact List.length_filter_lt_length_iff_exists.2 ⟨s, hs, by simpa using h1⟩
theorem Good.done_all {l : List Md} (h : Good l) : (doneN l (levM l).length).length = l.length := by
  rw [doneN_len, ← nsP_len l]
  rw [List.filter_eq_self.2 (fun s hs => by simpa using h.lev_lt.1 s hs)]
/-- Who can come next: those of that height. -/
theorem Good.free {l : List Md} (h : Good l) {r : Nat} {s : Nm} (hs : s ∈ nsP l) : (s ∉ doneN l r ∧ ∀ t ∈ impP l s, t ∈ doneN l r) ↔ hiM l s = r := by
  constructor
  · rintro ⟨h1, h2⟩
    have h3 : r ≤ hiM l s := by
      by_cases hc : hiM l s < r
      · exact absurd (doneN_mem.2 ⟨hs, hc⟩) h1
      · omega
    rcases h.hi_eq hs with h4 | ⟨t, ht, h4⟩
    · omega
    · have := (doneN_mem.1 (h2 t ht)).2
      omega
  · intro e
    refine ⟨fun hc => by have := (doneN_mem.1 hc).2; omega, fun t ht => ?_⟩
    obtain ⟨h1, h2⟩ := h.hi_lt hs ht
    exact doneN_mem.2 ⟨h1, by omega⟩
theorem Good.row_ne {l : List Md} (_h : Good l) {r : Nat} : (rowN l r).length ≤ l.length := by
  rw [← nsP_len l]
  exact List.length_filter_le _ _
end Go.Proofs.YtigmdiagdlbdpaaGreat
namespace Go.Proofs.YtigmdiagdlbdpaaGreat
open Go.RowKit Go.Maps
set_option maxRecDepth 100000 in
set_option maxHeartbeats 4000000 in
theorem within_p (w : World) (oa ob : Option Addr) (n m ca cb : Nat) (a b : List Nm) (ha : Strz w oa n a) (hb : Strz w ob m b) (hn : n ≤ 1000000) (hm : m ≤ 1000000) (x : Bool) (hx : decide (∀ t ∈ a, t ∈ b) = x) : Calls Tryz.prog 30 #[.slice oa n ca, .slice ob m cb] w fun e w' => e = .returned (.bool x) ∧ w' = w := by
  have HB := Lib.hid hb
  have HX := Lib.hid hx
  have hal := ha.len
  clear hb hx
  go_enter Tryz.func30, Tryz.ntmps30
  go_wp2
  go_loopw [5] (fun q wr => ∃ k : Nat, k ≤ n ∧ q = .int .i64 k ∧ Hid (∀ j, j < k → nAt a j ∈ b) ∧ wr = w) (fun q _ => n - (intOf q).toNat)
  case atStart => exact ⟨0, by omega, rfl, Lib.hid (fun i hi => absurd hi (Nat.not_lt_zero _)), rfl⟩
  case round =>
    obtain ⟨k, hk, rfl, HK, rfl⟩ := hrel
    by_cases hlt : k < n
    · have hkl : k < a.length := by omega
      obtain ⟨b1, o1, e1, c1⟩ := ha.cell k hkl
      subst e1
      obtain ⟨y, hy⟩ : ∃ y, nAt a k = y := ⟨_, rfl⟩
      rw [hy] at c1
      have h01 : (0 : Int) ≤ (k : Int) := Int.natCast_nonneg k
      have h02 : (k : Int) < (n : Int) := by omega
      have h03 : (k : Int).toNat = k := Int.toNat_natCast k
      have HY := Lib.hid hy
      obtain ⟨z, hz⟩ : ∃ z, decide (y ∈ b) = z := ⟨_, rfl⟩
      have HZ := Lib.hid hz
      clear hy hz
      cases z with
      | true =>
        have HN := Lib.hid (show ∀ j, j < k + 1 → nAt a j ∈ b from fun j hj => by
          by_cases e : j = k
          · rw [e, HY.out]; exact of_decide_eq_true HZ.out
          · exact HK.out j (by omega))
        go_wp2_with (go_at_call 21; (with_reducible refine (rHas_p _ ob m cb b HB.out hm y true HZ.out).mono ?_); rintro e w7 ⟨rfl, rfl⟩)
        go_roundw
        case rel => exact ⟨k + 1, by omega, by go_num, HN, trivial⟩
        case measure => simp [intOf]; omega
      | false =>
        have HF : Hid (x = false) := Lib.hid (by
          rw [← HX.out, decide_eq_false_iff_not]
          intro hc
          have h5 := hc (nAt a k) (by rw [nAt_get hkl]; exact List.getElem_mem hkl)
          rw [HY.out] at h5
          exact of_decide_eq_false HZ.out h5)
        go_wp2_with (go_at_call 21; (with_reducible refine (rHas_p _ ob m cb b HB.out hm y false HZ.out).mono ?_); rintro e w7 ⟨rfl, rfl⟩)
        go_ret
        rw [HF.out]
        exact ⟨rfl, rfl⟩
    · have h02 : ¬ (k : Int) < (n : Int) := by omega
      have HF : Hid (x = true) := Lib.hid (by
        rw [← HX.out, decide_eq_true_eq]
        intro t ht
        obtain ⟨j, hj, e⟩ := List.getElem_of_mem ht
        rw [← nAt_get hj] at e
        rw [← e]
        exact HK.out j (by omega))
      go_wp2
      go_ret
      rw [HF.out]
      exact ⟨rfl, rfl⟩
theorem rorRes (W : World) (T : Array Value) (B1 : Nat) (v f0 f1 f2 f3 : Value) (h0 : T[2]? = some v) (h1 : T[3]? = some (.pointer (some ⟨B1, 0, none⟩))) (hb1 : W.heap[B1]? = some (.cells #[f0, f1, f2, f3] 28 (0, 0))) : (results Tryz.f11 T).run Tryz.prog W = .ok (.tuple #[v, .agg #[f0, f1, f2, f3]]) W := by
  have c0 : W.cell? ⟨B1, 0, none⟩ = some f0 := (blk_c (k := 0) hb1 rfl).1
  have c1 : W.cell? ⟨B1, 1, none⟩ = some f1 := (blk_c (k := 1) hb1 rfl).1
  have c2 : W.cell? ⟨B1, 2, none⟩ = some f2 := (blk_c (k := 2) hb1 rfl).1
  have c3 : W.cell? ⟨B1, 3, none⟩ = some f3 := (blk_c (k := 3) hb1 rfl).1
  simp [results, Tryz.results11, go_sem, h0, h1, c0, c1, c2, c3]
set_option maxRecDepth 100000 in
set_option maxHeartbeats 4000000 in
theorem rOrder_bad (w : World) (oa : Option Addr) (n ca : Nat) (l : List Md) (h : Mdz w oa n l) (him : n ≤ 32 → ∀ m ∈ l, m.im.length ≤ 100) (c : Nat) (s : Nm) (hF : accF l = some (c, s)) : Calls Tryz.prog 11 #[.slice oa n ca] w (NmF (accF l) (ordM l) w) := by
  have hA : Only (fun _ => False) w (w.alloc (.cells #[.int .i64 0, .string ⟨#[]⟩, .int .i64 0, .int .i64 0] 28)) := (Only.refl _ _).alloc _
  have HNA : Hid (Calls Tryz.prog 28 #[.slice oa n ca] (w.alloc (.cells #[.int .i64 0, .string ⟨#[]⟩, .int .i64 0, .int .i64 0] 28)) fun e w' => e = .returned (faV c s) ∧ Only (fun _ => False) (w.alloc (.cells #[.int .i64 0, .string ⟨#[]⟩, .int .i64 0, .int .i64 0] 28)) w') := Lib.hid (by have h8 := rfault_p (w.alloc (.cells #[.int .i64 0, .string ⟨#[]⟩, .int .i64 0, .int .i64 0] 28)) oa n ca l (h.old hA (fun _ _ hc => hc)) him; rw [hF] at h8; exact h8)
  have hc0 : c ≠ 0 := accF_pos hF
  have hcn : ¬ (c : Int) = 0 := by omega
  have HF := Lib.hid hF
  clear h him hA hF hc0
  go_enter Tryz.func11, Tryz.ntmps11
  go_wp2_with (go_at_call 28; (with_reducible refine HNA.out.mono ?_); rintro e w5 ⟨rfl, hO5⟩; have HO5 : Hid (Only (w.heap.size + 1 ≤ ·) (w.alloc (.cells #[.int .i64 0, .string ⟨#[]⟩, .int .i64 0, .int .i64 0] 28)) (w5.alloc (.cells #[.int .i64 (c : Int), encStr s, .int .i64 0, .int .i64 0] 28))) := Lib.hid ((hO5.alloc _).lift); have hlt : w.heap.size + 1 ≤ w5.heap.size := (by have h3 := hO5.size; rw [show (w.alloc (.cells #[.int .i64 0, .string ⟨#[]⟩, .int .i64 0, .int .i64 0] 28)).heap.size = w.heap.size + 1 by show (Array.push _ _).size = _; rw [Array.size_push]] at h3; exact h3); have d1 : ¬ w5.heap.size = w.heap.size := (by omega); have d2 : ¬ w.heap.size = w5.heap.size := (by omega); have hbx := boxAt (HO5.out); obtain ⟨q0, z0⟩ := blk_c (k := 0) hbx rfl; obtain ⟨q1, z1⟩ := blk_c (k := 1) hbx rfl; obtain ⟨q2, z2⟩ := blk_c (k := 2) hbx rfl; obtain ⟨q3, z3⟩ := blk_c (k := 3) hbx rfl; clear hbx; have hkc := new_block w5 (.cells #[.int .i64 (c : Int), encStr s, .int .i64 0, .int .i64 0] 28); obtain ⟨k0, -⟩ := blk_c (k := 0) hkc rfl; obtain ⟨k1, -⟩ := blk_c (k := 1) hkc rfl; obtain ⟨k2, -⟩ := blk_c (k := 2) hkc rfl; obtain ⟨k3, -⟩ := blk_c (k := 3) hkc rfl; clear hO5 hlt hkc)
  obtain ⟨Z, hZ⟩ : ∃ Z, w5.alloc (.cells #[.int .i64 (c : Int), .string ⟨s.toArray⟩, .int .i64 0, .int .i64 0] 28) = Z := ⟨_, rfl⟩
  have hZ' : w5.alloc (.cells #[.int .i64 (c : Int), encStr s, .int .i64 0, .int .i64 0] 28) = Z := hZ
  rw [hZ'] at HO5 q0 q1 q2 q3 z0 z1 z2 z3 k0 k1 k2 k3
  rw [hZ]
  clear hZ hZ'
  go_wp2
  go_region
  all_goals
    go_wp2
    have hfe := faultEnd (c := c) (y := s) HO5.out (a0 := .int .i64 c) (a1 := encStr s) rfl rfl
    refine bodyPost_ret (v := .tuple #[.slice none 0 0, faV c s]) (rorRes _ _ _ _ _ _ _ _ rfl rfl (by have h9 := hfe.1; first | exact h9 | (simpa [World.drew] using h9))) rfl ?_
    exact NmF_bad HF.out (by first | exact hfe.2 | exact hfe.2.drew)
/-- A slice's length. -/
def slN : Value → Nat
  | .slice _ m _ => m
  | _ => 0
set_option maxRecDepth 100000 in
set_option maxHeartbeats 4000000 in
theorem rOrder_good (w : World) (oa : Option Addr) (n ca : Nat) (l : List Md) (h : Mdz w oa n l) (him : n ≤ 32 → ∀ m ∈ l, m.im.length ≤ 100) (hC : accF l = none) : Calls Tryz.prog 11 #[.slice oa n ca] w (NmF (accF l) (ordM l) w) := by
  obtain ⟨hl32, hgood⟩ := accF_none hC
  have hl := h.len
  have hnl := nsP_len l
  have hA : Only (fun _ => False) w (w.alloc (.cells #[.int .i64 0, .string ⟨#[]⟩, .int .i64 0, .int .i64 0] 28)) := (Only.refl _ _).alloc _
  have hW := h.old hA (fun _ _ hc => hc)
  have HNA : Hid (Calls Tryz.prog 28 #[.slice oa n ca] (w.alloc (.cells #[.int .i64 0, .string ⟨#[]⟩, .int .i64 0, .int .i64 0] 28)) fun e w' => e = .returned (faV 0 []) ∧ Only (fun _ => False) (w.alloc (.cells #[.int .i64 0, .string ⟨#[]⟩, .int .i64 0, .int .i64 0] 28)) w') := Lib.hid (by have h8 := rfault_p (w.alloc (.cells #[.int .i64 0, .string ⟨#[]⟩, .int .i64 0, .int .i64 0] 28)) oa n ca l hW him; rw [hC] at h8; exact h8)
  have HNM : Hid (∀ wx, Only (fun _ => False) (w.alloc (.cells #[.int .i64 0, .string ⟨#[]⟩, .int .i64 0, .int .i64 0] 28)) wx → Calls Tryz.prog 29 #[.slice oa n ca] wx fun e w' => ∃ oo co, e = .returned (.slice oo n co) ∧ Strz w' oo n (nsP l) ∧ Only (fun _ => False) wx w') := Lib.hid (fun wx ho => (rNames_p wx oa n ca l (hW.old ho (fun _ _ hc => hc)) (by omega) hgood.nd).mono (by
    rintro e w' ⟨oo, co, h1, h2, h3⟩
    exact ⟨oo, co, h1, h2.strz, h3⟩))
  have HIM : Hid (∀ wx y, Only (w.heap.size ≤ ·) w wx → Calls Tryz.prog 22 #[.slice oa n ca, encStr y] wx fun e w' => ∃ oo cc, e = .returned (.slice oo (impP l y).length cc) ∧ Strz w' oo (impP l y).length (impP l y) ∧ Only (fun _ => False) wx w') := Lib.hid (fun wx y ho => (rImports_p wx oa n ca l y (h.up ho) (by omega) (him (by omega))).mono (by
    rintro e w' ⟨oo, cc, h1, h2, h3⟩
    exact ⟨oo, cc, h1, h2.strz, h3⟩))
  have HIL : Hid (∀ y, (impP l y).length ≤ 1000000) := Lib.hid (fun y => by
    have h9 := impP_len (nm := y) (him (by omega))
    have h10 : l.length * 100 ≤ 32 * 100 := Nat.mul_le_mul_right _ hl32
    omega)
  have hRl : (ordM l).length = n := by rw [hgood.len]; exact hl
  obtain ⟨g, hg⟩ : ∃ g : Nat → Nat, ∀ k, k < n → g k < n ∧ nAt (ordM l) k = nAt (nsP l) (g k) ∧ nAt (ordM l) k ∉ (ordM l).take k ∧ (∀ t ∈ impP l (nAt (ordM l) k), t ∈ (ordM l).take k) ∧ ∀ i, i < g k → nAt (nsP l) i ∉ (ordM l).take k → ¬ ∀ t ∈ impP l (nAt (nsP l) i), t ∈ (ordM l).take k := ⟨fun k => gt (compsG (grP l)).flatten k, fun k hk => ⟨by have h9 := hgood.pos (k := k) (by omega); show gt (compsG (grP l)).flatten k < n; omega, hgood.at (by omega), hgood.new (by omega), hgood.imps (by omega), fun i hi hno hal => by
    obtain ⟨t, ht, h9⟩ := hgood.least (k := k) (by omega) hi hno
    exact h9 (hal t ht)⟩⟩
  have HG := Lib.hid hg
  have HF := Lib.hid hC
  have HNL : Hid ((nsP l).length = n) := Lib.hid (by omega)
  have hn32 : n ≤ 32 := by omega
  obtain ⟨R, hR⟩ : ∃ R, ordM l = R := ⟨_, rfl⟩
  rw [hR] at HG hRl
  rw [hR]
  have HRL := Lib.hid hRl
  clear h him hA hW hC hgood hnl hg hR hRl
  go_enter Tryz.func11, Tryz.ntmps11
  go_wp2_with (first | (go_at_call 28; (with_reducible refine HNA.out.mono ?_); rintro e w5 ⟨rfl, hO5⟩; have HO5 := Lib.hid hO5; clear hO5) | (go_at_call 29; (with_reducible refine (HNM.out _ (HO5.out.alloc _)).mono ?_); rintro e w6 ⟨oN, cN, rfl, hS6, hO6⟩; have HS6 := Lib.hid hS6; have HK6 := Lib.hid ((Bx.new w5).on hO6); have HO6 := Lib.hid ((HO5.out.alloc (.cells #[.int .i64 0, .string ⟨#[]⟩, .int .i64 0, .int .i64 0] 28)).trans hO6); clear hS6 hO6))
  obtain ⟨kb, hkb⟩ : ∃ k, w5.heap.size = k := ⟨_, rfl⟩
  rw [hkb] at HK6
  rw [hkb]
  have HKB : Hid (w.heap.size + 1 ≤ kb ∧ kb < w6.heap.size) := Lib.hid ⟨by have h3 := HO5.out.size; rw [show (w.alloc (.cells #[.int .i64 0, .string ⟨#[]⟩, .int .i64 0, .int .i64 0] 28)).heap.size = w.heap.size + 1 by show (Array.push _ _).size = _; rw [Array.size_push]] at h3; omega, lt_of_block HK6.out⟩
  clear hkb
  go_loopw [5, 7] (fun v _ wr => ∃ k : Nat, k ≤ n ∧ SR wr w6.heap.size v (R.take k) ∧ Only (w6.heap.size ≤ ·) w6 wr) (fun v _ _ => n - slN v)
  case atStart => exact ⟨0, by omega, SR.nil _ _, Only.refl _ _⟩
  case round =>
    obtain ⟨k, hk, hR, hO⟩ := hrel
    have hkl : (R.take k).length = k := by rw [List.length_take, HRL.out]; omega
    obtain ⟨oR, cR, hv⟩ := rowForm hR
    rw [hkl] at hv
    subst hv
    have HOW : Hid (Only (w.heap.size + 1 ≤ ·) (w.alloc (.cells #[.int .i64 0, .string ⟨#[]⟩, .int .i64 0, .int .i64 0] 28)) wr) := Lib.hid (HO6.out.lift.trans (hO.wide (K' := (w.heap.size + 1 ≤ ·)) (fun j hj => by have hj' : w6.heap.size ≤ j := hj; have h3 := HKB.out; show w.heap.size + 1 ≤ j; omega)))
    by_cases hkn : k < n
    · obtain ⟨g1, g2, g3, g4, g5⟩ := HG.out k hkn
      have g6 := take_nAt (l := R) (k := k) (by rw [HRL.out]; exact hkn)
      obtain ⟨U, hU⟩ : ∃ U, R.take k = U := ⟨_, rfl⟩
      rw [hU] at hR hkl g3 g4 g5 g6
      obtain ⟨p, hp⟩ : ∃ p, g k = p := ⟨_, rfl⟩
      rw [hp] at g1 g2 g5
      have HR := Lib.hid hR
      have HUL := Lib.hid hkl
      have G2 := Lib.hid g2
      have G3 := Lib.hid g3
      have G4 := Lib.hid g4
      have G5 := Lib.hid g5
      have G6 := Lib.hid g6
      have HSW : Hid (w6.heap.size ≤ wr.heap.size) := Lib.hid hO.size
      have HO := Lib.hid hO
      have h02 : (k : Int) < (n : Int) := by omega
      clear hR hkl g2 g3 g4 g5 g6 hU hp hO
      go_wp2
      go_loopw [5, 7] (fun v q wx => ∃ i : Nat, i ≤ p ∧ v = .slice oR k cR ∧ q = .int .i64 i ∧ Only (fun _ => False) wr wx) (fun _ q _ => n - (intOf q).toNat)
      case atStart => exact ⟨0, by omega, rfl, rfl, Only.refl _ _⟩
      case round =>
        obtain ⟨i, hi, rfl, rfl, hX⟩ := hrel
        have hin : i < n := by omega
        have hil : i < (nsP l).length := by have := HNL.out; omega
        obtain ⟨b1, o1, e1, c1⟩ := ((HS6.out.up HO.out).old hX (fun _ _ hc => hc)).cell i hil
        subst e1
        have HY0 : Hid (i = p → nAt (nsP l) i = nAt R k) := Lib.hid (fun e => by rw [e]; exact G2.out.symm)
        have HG5 : Hid (i < p → nAt (nsP l) i ∉ U → ¬ ∀ t ∈ impP l (nAt (nsP l) i), t ∈ U) := Lib.hid (G5.out i)
        obtain ⟨y, hy⟩ : ∃ y, nAt (nsP l) i = y := ⟨_, rfl⟩
        rw [hy] at c1 HY0 HG5
        have hxs := HR.out.strz.old hX (fun _ _ hc => hc)
        have HXS : Hid (Strz _ oR k U) := Lib.hid hxs
        have HX := Lib.hid hX
        have HIY := Lib.hid (HIM.out _ y ((boxOnly HOW.out).trans hX.lift))
        have HC : Hid (∀ wz, Only (fun _ => False) _ wz → wz.cell? ⟨b1, o1 + i, none⟩ = some (encStr y)) := Lib.hid (fun wz ho => cell_old c1 ho (fun _ _ hc => hc) rfl)
        have h03 : (0 : Int) ≤ (i : Int) := Int.natCast_nonneg i
        have h04 : (i : Int) < (n : Int) := by omega
        have h05 : (i : Int).toNat = i := Int.toNat_natCast i
        have hiy := HIL.out y
        obtain ⟨Q, hQ⟩ : ∃ Q, impP l y = Q := ⟨_, rfl⟩
        rw [hQ] at HIY hiy HG5
        obtain ⟨x, hx⟩ : ∃ x, decide (y ∈ U) = x := ⟨_, rfl⟩
        have HXD := Lib.hid hx
        have HQ := Lib.hid hQ
        clear hy hxs hX hQ hx
        cases x with
        | true =>
          have hne : i ≠ p := fun e => G3.out (by rw [← HY0.out e]; exact of_decide_eq_true HXD.out)
          go_wp2_with (go_at_call 21; (with_reducible refine (rHas_p _ oR k cR U HXS.out (by omega) y true HXD.out).mono ?_); rintro e w7 ⟨rfl, rfl⟩)
          go_roundw
          case rel => exact ⟨i + 1, by omega, rfl, by go_num, HX.out⟩
          case measure => simp [intOf]; omega
        | false =>
          obtain ⟨z, hz⟩ : ∃ z, decide (∀ t ∈ Q, t ∈ U) = z := ⟨_, rfl⟩
          have HZ := Lib.hid hz
          clear hz
          cases z with
          | false =>
            have hne : i ≠ p := fun e => of_decide_eq_false HZ.out (by rw [← HQ.out, HY0.out e]; exact G4.out)
            go_wp2_with (first | (go_at_call 21; (with_reducible refine (rHas_p _ oR k cR U HXS.out (by omega) y false HXD.out).mono ?_); rintro e w7 ⟨rfl, rfl⟩) | (go_at_call 22; (with_reducible refine HIY.out.mono ?_); rintro e w8 ⟨oQ, cQ, rfl, hS8, hO8⟩; have HS8 := Lib.hid hS8; have HO8 := Lib.hid hO8; clear hS8 hO8) | (go_at_call 30; (with_reducible refine (within_p w8 oQ oR Q.length k cQ cR Q U HS8.out (HXS.out.old HO8.out (fun _ _ hc => hc)) hiy (by omega) false HZ.out).mono ?_); rintro e w9 ⟨rfl, rfl⟩))
            go_roundw
            case rel => exact ⟨i + 1, by omega, rfl, by go_num, HX.out.trans HO8.out⟩
            case measure => simp [intOf]; omega
          | true =>
            have hip : i = p := by
              by_cases e : i < p
              · exact absurd (of_decide_eq_true HZ.out) (HG5.out e (of_decide_eq_false HXD.out))
              · omega
            have HYK := Lib.hid (HY0.out hip)
            clear hip
            go_wp2_with (first | (go_at_call 21; (with_reducible refine (rHas_p _ oR k cR U HXS.out (by omega) y false HXD.out).mono ?_); rintro e w7 ⟨rfl, rfl⟩) | (go_at_call 22; (with_reducible refine HIY.out.mono ?_); rintro e w8 ⟨oQ, cQ, rfl, hS8, hO8⟩; have HS8 := Lib.hid hS8; have HO8 := Lib.hid hO8; have c8 := HC.out _ hO8; clear hS8 hO8) | (go_at_call 30; (with_reducible refine (within_p w8 oQ oR Q.length k cQ cR Q U HS8.out (HXS.out.old HO8.out (fun _ _ hc => hc)) hiy (by omega) true HZ.out).mono ?_); rintro e w9 ⟨rfl, rfl⟩) | (at_builtin; refine wpList_append_nm rfl _ _ rfl w6.heap.size (.slice oR k cR) U rfl (SR.al (HR.out.only (HX.out.trans HO8.out) (fun _ _ hc => hc)) _) _ 1 1 [y] rfl (strz_one _ y _) (by have := HUL.out; omega) (al_le (Nat.le_trans HSW.out (HX.out.trans HO8.out).size) _) ?_; intro oq cq w12 hq; have HA1 := Lib.hid hq.1; have HO1 := Lib.hid (((HO.out.trans (HX.out.trans HO8.out).lift).alloc _).trans hq.2); clear hq))
            go_roundw
            case rel => exact ⟨k + 1, by omega, by rw [G6.out, ← HYK.out]; exact HA1.out, HO1.out⟩
            case measure =>
              show n - (U.length + 1) < n - k
              have := HUL.out
              omega
    · have hke : k = n := by omega
      have h02 : ¬ (k : Int) < (n : Int) := by omega
      have htk : R.take k = R := take_all (by rw [HRL.out]; exact hke.symm)
      rw [htk, hke] at hR
      have HR2 := Lib.hid hR
      have hbx := boxAt HOW.out
      obtain ⟨q0, z0⟩ := blk_c (k := 0) hbx rfl
      obtain ⟨q1, z1⟩ := blk_c (k := 1) hbx rfl
      obtain ⟨q2, z2⟩ := blk_c (k := 2) hbx rfl
      obtain ⟨q3, z3⟩ := blk_c (k := 3) hbx rfl
      have hk2 : Bx wr kb 0 ⟨#[]⟩ := (hO.block kb HKB.out.2 (fun hc => by have hc' : w6.heap.size ≤ kb := hc; have := HKB.out; omega)).trans HK6.out
      obtain ⟨k0, k1, k2, k3⟩ := hk2.cells
      have d1 : ¬ kb = w.heap.size := by have := HKB.out; omega
      have d2 : ¬ w.heap.size = kb := by have := HKB.out; omega
      have HM : Hid (R.length = n) := HRL
      clear hR hO htk hbx hk2 hkl
      go_wp2
      go_region
      all_goals
        go_wp2
        have hfe := faultEnd (c := 0) (y := []) HOW.out (a0 := .int .i64 0) (a1 := .string ⟨#[]⟩) rfl rfl
        have hsb := strz_box (a0 := .int .i64 0) (a1 := .string ⟨#[]⟩) (a2 := .int .i64 0) (a3 := .int .i64 0) (SR.lo HR2.out (B' := w.heap.size + 1) (by have := HKB.out; omega))
        refine bodyPost_ret (v := .tuple #[.slice oR n cR, faV 0 []]) (rorRes _ _ _ _ _ _ _ _ rfl rfl (by have h9 := hfe.1; first | exact h9 | (simpa [World.drew] using h9))) rfl ?_
        first
          | exact NmF_good HM.out HF.out hsb hfe.2
          | exact NmF_good HM.out HF.out (hsb.old ((Only.refl (fun _ => False) _).drew) (fun _ _ hc => hc)) hfe.2.drew
theorem rOrder_p (w : World) (oa : Option Addr) (n ca : Nat) (l : List Md) (h : Mdz w oa n l) (him : n ≤ 32 → ∀ m ∈ l, m.im.length ≤ 100) : Calls Tryz.prog 11 #[.slice oa n ca] w (NmF (accF l) (ordM l) w) := by
  cases hC : accF l with
  | some x =>
    obtain ⟨c, s⟩ := x
    rw [← hC]
    exact rOrder_bad w oa n ca l h him c s hC
  | none =>
    rw [← hC]
    exact rOrder_good w oa n ca l h him hC
end Go.Proofs.YtigmdiagdlbdpaaGreat
namespace Go.Proofs.YtigmdiagdlbdpaaGreat
open Go.RowKit Go.Maps
/-- What an append leaves, whose row is told. -/
def AppR (B : Nat) (w : World) (v : Value) (xs l : List Nm) (m : Nat) (oa : Option Addr) (ca : Nat) (w' : World) : Prop := SR w' B (.slice oa (xs.length + m) ca) (xs ++ l) ∧ w.grownBy w' v.ownBlock ∧ ∀ g, (Value.slice oa (xs.length + m) ca).ownBlock = some g → v.ownBlock = some g ∨ w.heap.size ≤ g
theorem run_append_nr (w : World) (ty : TypeId) (B : Nat) (v : Value) (xs : List Nm) (hown : SR w B v xs) (oS : Option Addr) (m c : Nat) (l : List Nm) (hS : Strz w oS m l) (hsz : xs.length + m ≤ 1000000000000) (hB : B ≤ w.heap.size) :
    ∃ oa ca w', (Builtin.append_ #[25, 25] ty #[v, .slice oS m c]).run Tryz.prog w = .ok (.slice oa (xs.length + m) ca) w' ∧ AppR B w v xs l m oa ca w' := by
  have key : ∃ v' w', (Builtin.append_ #[25, 25] ty #[v, .slice oS m c]).run Tryz.prog w = .ok v' w' ∧ SR w' B v' (xs ++ l) ∧ w.grownBy w' v.ownBlock ∧ ∀ g, v'.ownBlock = some g → v.ownBlock = some g ∨ w.heap.size ≤ g := by
    obtain ⟨i0', hi, hz0, hz1, hz2⟩ := info_parts infoStr
    have hown' : w.ownsRow B 9 1 v xs.length (xs.map encStr) := hown
    have nothing : ∀ (x : Value), Src Tryz.prog i0'.size 25 x 0 [] w → (Builtin.append_ #[25, 25] ty #[v, x]).run Tryz.prog w = .ok v w := fun x hx => by
      rcases hown'.2 with ⟨rfl, -⟩ | ⟨g, cap, cur, rfl, -, -, hle, -⟩
      · exact Go.run_append_nothing w _ _ ty _ i0' Tryz.underlying25 hi none 0 0 (Nat.le_refl _) _ hx
      · exact Go.run_append_nothing w _ _ ty _ i0' Tryz.underlying25 hi _ xs.length cap hle _ hx
    have conv : ∀ (w' : World) (v' : Value), w'.ownsRow B 9 1 v' (xs.length + m) (xs.map encStr ++ l.map encStr) → SR w' B v' (xs ++ l) := fun w' v' h => by
      unfold SR
      rw [List.length_append, List.map_append, hS.len]
      exact h
    cases oS with
    | none =>
      have hl : l = [] := by
        cases l with
        | nil => rfl
        | cons x r =>
          obtain ⟨b, o, e, -⟩ := hS.cell 0 (by simp)
          cases e
      have hm : m = 0 := by rw [← hS.len, hl]; rfl
      subst hl
      subst hm
      exact ⟨v, w, nothing _ (Go.Src.ofNil (size := i0'.size) w Tryz.underlying25 c), by rw [List.append_nil]; exact hown, World.grownBy.refl _ _, fun g hg => .inl hg⟩
    | some ad =>
      by_cases hm : m = 0
      · subst hm
        have hl : l = [] := List.length_eq_zero_iff.1 hS.len
        subst hl
        exact ⟨v, w, nothing _ (Go.Src.ofSlice (size := i0'.size) w Tryz.underlying25 ad 0 c [] (by simp) (fun j u h => by simp at h) (fun u h => by cases h)), by rw [List.append_nil]; exact hown, World.grownBy.refl _ _, fun g hg => .inl hg⟩
      · obtain ⟨b, o, e, -⟩ := hS.cell 0 (by rw [hS.len]; omega)
        cases e
        obtain ⟨v', w', h1, h2, h3, -, h5⟩ := run_append_own_at (P := Tryz.prog) w B 25 ty 9 i0' (.string ⟨#[]⟩) 1 16 Tryz.underlying25 hi hz0 hz1 hz2 rfl (by decide) v xs.length (xs.map encStr) hown' ⟨b, o, none⟩ m c (l.map encStr) (by rw [List.length_map, hS.len, Nat.mul_one]) (strz_news hS) (strz_ones l) (by unfold maxLen; omega) (by omega) hB
        refine ⟨v', w', h1, conv _ _ h2, h3, fun g hg => ?_⟩
        rcases h5 with h5 | h5
        · exact .inl (by rw [← h5]; exact hg)
        · rw [h5] at hg
          exact .inr (by cases hg; exact Nat.le_refl _)
  obtain ⟨v', w', h1, h2, h3, h4⟩ := key
  obtain ⟨oa, ca, hv⟩ := rowForm h2
  rw [List.length_append, hS.len] at hv
  subst hv
  exact ⟨oa, ca, w', h1, h2, h3, h4⟩
theorem wpList_append_nr {w : World} {ops : Array Oper} {rest : List Oper} {o : Oper} {a : Act} {Q : Exit → Act → World → Prop} (hg : o.guard = none) (s x : Operand)
    (ho : o.op = .call { callee := .builtin .append, args := #[s, x], argTypes := #[25, 25] }) (B : Nat) (v : Value) (xs : List Nm) (hs : a.eval s = v) (hown : SR w B v xs) (oS : Option Addr) (m c : Nat) (l : List Nm) (hx : a.eval x = .slice oS m c) (hS : Strz w oS m l)
    (hsz : xs.length + m ≤ 1000000000000) (hB : B ≤ w.heap.size) (h : ∀ oa ca w', AppR B w v xs l m oa ca w' → wpList Tryz.prog ops Q rest (a.put o.dst (.slice oa (xs.length + m) ca)) w') : wpList Tryz.prog ops Q (o :: rest) a w := by
  obtain ⟨oa, ca, w', h1, h2⟩ := run_append_nr w o.type B v xs hown oS m c l hS hsz hB
  refine wpList_plain hg fun K hK => ?_
  unfold Oper.wp
  simp [execOp, ho, resolve, invoke, builtin, hs, hx, h1, Result.andThen]
  exact hK _ _ (h oa ca w' h2)
/-- The levels so far and the names in them: rows of the call's own, apart from each other. -/
structure LvS (w : World) (B : Nat) (v d : Value) (vs : List Value) (L : List (List Nm)) (D : List Nm) : Prop where
  out : SRR w B v vs L
  don : SR w B d D
  ap : ∀ g, d.ownBlock = some g → ∀ i, i < L.length → (vAt vs i).ownBlock ≠ some g
theorem LvS.nil (w : World) (B : Nat) : LvS w B (.slice none 0 0) (.slice none 0 0) [] [] [] := ⟨SRR.nil _ _, SR.nil _ _, fun _ _ i hi => absurd hi (Nat.not_lt_zero _)⟩
theorem LvS.up {w w' : World} {B : Nat} {v d : Value} {vs : List Value} {L : List (List Nm)} {D : List Nm} (h : LvS w B v d vs L D) (ho : Only (w.heap.size ≤ ·) w w') : LvS w' B v d vs L D :=
  ⟨h.out.only ho (fun g hg _ hc => by have hc' : w.heap.size ≤ g := hc; omega), h.don.only ho (fun g hg hc => by have hc' : w.heap.size ≤ g := hc; have := (World.ownsRow.lt h.don g hg).2; omega), h.ap⟩
/-- A level's names are put behind those in levels. -/
theorem LvS.done {w w' : World} {B m ca : Nat} {oa : Option Addr} {v d : Value} {vs : List Value} {L : List (List Nm)} {D l : List Nm} (h : LvS w B v d vs L D) (ha : AppR B w d D l m oa ca w') : LvS w' B v (.slice oa (D.length + m) ca) vs L (D ++ l) := by
  obtain ⟨h1, h2, h3⟩ := ha
  refine ⟨⟨rowKeep h.out.out (fun g hg => h2.block g (World.ownsRow.lt h.out.out g hg).2 (fun e => rowApart h.out.out h.don (by decide) hg e.symm)), fun i hi => rowKeep (h.out.row i hi) (fun g hg => h2.block g (World.ownsRow.lt (h.out.row i hi) g hg).2 (fun e => h.ap g e.symm i hi hg))⟩, h1, fun g hg i hi e => ?_⟩
  rcases h3 g hg with h4 | h4
  · exact h.ap g h4 i hi e
  · have := (World.ownsRow.lt (h.out.row i hi) g e).2
    omega
theorem LvS.level {w w' : World} {B B' m ca : Nat} {oa : Option Addr} {v d x : Value} {vs : List Value} {L : List (List Nm)} {D l l' : List Nm} (_h : LvS w B v d vs L D) (ha : AppR B w d D l m oa ca w') (hx : SR w B' x l') (hd : ∀ g, d.ownBlock = some g → g < B') : SR w' B' x l' ∧ ∀ g, (Value.slice oa (D.length + m) ca).ownBlock = some g → x.ownBlock ≠ some g := by
  obtain ⟨h1, h2, h3⟩ := ha
  refine ⟨rowKeep hx (fun g hg => h2.block g (World.ownsRow.lt hx g hg).2 (fun e => ?_)), fun g hg e => ?_⟩
  · have h4 := hd g e.symm
    have h5 := (World.ownsRow.lt hx g hg).1
    omega
  · have h5 := World.ownsRow.lt hx g e
    rcases h3 g hg with h4 | h4
    · have := hd g h4
      omega
    · omega
theorem LvS.push {w w3 : World} {B : Nat} {v v' d x : Value} {vs : List Value} {L : List (List Nm)} {D l : List Nm} (h : LvS w B v d vs L D) (hg : w.grownBy w3 v.ownBlock) (hx : SR w B x l) (hxd : ∀ g, d.ownBlock = some g → x.ownBlock ≠ some g) (hrow : w3.ownsRow B 25 1 v' (L.length + 1) (vs ++ [x])) : LvS w3 B v' d (vs ++ [x]) (L ++ [l]) D := by
  refine ⟨h.out.push hg hx hrow, rowKeep h.don (fun g hgd => hg.block g (World.ownsRow.lt h.don g hgd).2 (fun e => rowApart h.don h.out.out (by decide) hgd e.symm)), fun g hgd i hi e => ?_⟩
  have hvl := h.out.vl
  rw [List.length_append, List.length_singleton] at hi
  by_cases hil : i < L.length
  · rw [vAt_app (by omega)] at e
    exact h.ap g hgd i hil e
  · have e2 : vAt (vs ++ [x]) i = x := by
      have e3 : i = vs.length := by omega
      subst e3
      show (vs ++ [x]).getD vs.length nilV = x
      rw [List.getD_eq_getElem?_getD, List.getElem?_append_right (Nat.le_refl _), Nat.sub_self]
      rfl
    rw [e2] at e
    exact hxd g hgd e
def rowsK (l : List Md) (k : Nat) : List (List Nm) := (List.range k).map (rowN l)
theorem rowsK_len (l : List Md) (k : Nat) : (rowsK l k).length = k := by unfold rowsK; rw [List.length_map, List.length_range]
theorem rowsK_succ (l : List Md) (k : Nat) : rowsK l (k + 1) = rowsK l k ++ [rowN l k] := by
  unfold rowsK
  rw [List.range_succ, List.map_append]
  rfl
theorem rleRes (W : World) (T : Array Value) (B1 : Nat) (v f0 f1 f2 f3 : Value) (h0 : T[2]? = some v) (h1 : T[3]? = some (.pointer (some ⟨B1, 0, none⟩))) (hb1 : W.heap[B1]? = some (.cells #[f0, f1, f2, f3] 28 (0, 0))) : (results Tryz.f13 T).run Tryz.prog W = .ok (.tuple #[v, .agg #[f0, f1, f2, f3]]) W := by
  have c0 : W.cell? ⟨B1, 0, none⟩ = some f0 := (blk_c (k := 0) hb1 rfl).1
  have c1 : W.cell? ⟨B1, 1, none⟩ = some f1 := (blk_c (k := 1) hb1 rfl).1
  have c2 : W.cell? ⟨B1, 2, none⟩ = some f2 := (blk_c (k := 2) hb1 rfl).1
  have c3 : W.cell? ⟨B1, 3, none⟩ = some f3 := (blk_c (k := 3) hb1 rfl).1
  simp [results, Tryz.results13, go_sem, h0, h1, c0, c1, c2, c3]
set_option maxRecDepth 100000 in
set_option maxHeartbeats 4000000 in
theorem rLevels_bad (w : World) (oa : Option Addr) (n ca : Nat) (l : List Md) (h : Mdz w oa n l) (him : n ≤ 32 → ∀ m ∈ l, m.im.length ≤ 100) (c : Nat) (s : Nm) (hF : accF l = some (c, s)) : Calls Tryz.prog 13 #[.slice oa n ca] w (lvQ (accF l) (levM l) w) := by
  have hA : Only (fun _ => False) w (w.alloc (.cells #[.int .i64 0, .string ⟨#[]⟩, .int .i64 0, .int .i64 0] 28)) := (Only.refl _ _).alloc _
  have HNA : Hid (Calls Tryz.prog 28 #[.slice oa n ca] (w.alloc (.cells #[.int .i64 0, .string ⟨#[]⟩, .int .i64 0, .int .i64 0] 28)) fun e w' => e = .returned (faV c s) ∧ Only (fun _ => False) (w.alloc (.cells #[.int .i64 0, .string ⟨#[]⟩, .int .i64 0, .int .i64 0] 28)) w') := Lib.hid (by have h8 := rfault_p (w.alloc (.cells #[.int .i64 0, .string ⟨#[]⟩, .int .i64 0, .int .i64 0] 28)) oa n ca l (h.old hA (fun _ _ hc => hc)) him; rw [hF] at h8; exact h8)
  have hc0 : c ≠ 0 := accF_pos hF
  have hcn : ¬ (c : Int) = 0 := by omega
  have HF := Lib.hid hF
  clear h him hA hF hc0
  go_enter Tryz.func13, Tryz.ntmps13
  go_wp2_with (go_at_call 28; (with_reducible refine HNA.out.mono ?_); rintro e w5 ⟨rfl, hO5⟩; have HO5 : Hid (Only (w.heap.size + 1 ≤ ·) (w.alloc (.cells #[.int .i64 0, .string ⟨#[]⟩, .int .i64 0, .int .i64 0] 28)) (w5.alloc (.cells #[.int .i64 (c : Int), encStr s, .int .i64 0, .int .i64 0] 28))) := Lib.hid ((hO5.alloc _).lift); have hlt : w.heap.size + 1 ≤ w5.heap.size := (by have h3 := hO5.size; rw [show (w.alloc (.cells #[.int .i64 0, .string ⟨#[]⟩, .int .i64 0, .int .i64 0] 28)).heap.size = w.heap.size + 1 by show (Array.push _ _).size = _; rw [Array.size_push]] at h3; exact h3); have d1 : ¬ w5.heap.size = w.heap.size := (by omega); have d2 : ¬ w.heap.size = w5.heap.size := (by omega); have hbx := boxAt (HO5.out); obtain ⟨q0, z0⟩ := blk_c (k := 0) hbx rfl; obtain ⟨q1, z1⟩ := blk_c (k := 1) hbx rfl; obtain ⟨q2, z2⟩ := blk_c (k := 2) hbx rfl; obtain ⟨q3, z3⟩ := blk_c (k := 3) hbx rfl; clear hbx; have hkc := new_block w5 (.cells #[.int .i64 (c : Int), encStr s, .int .i64 0, .int .i64 0] 28); obtain ⟨k0, -⟩ := blk_c (k := 0) hkc rfl; obtain ⟨k1, -⟩ := blk_c (k := 1) hkc rfl; obtain ⟨k2, -⟩ := blk_c (k := 2) hkc rfl; obtain ⟨k3, -⟩ := blk_c (k := 3) hkc rfl; clear hO5 hlt hkc)
  obtain ⟨Z, hZ⟩ : ∃ Z, w5.alloc (.cells #[.int .i64 (c : Int), .string ⟨s.toArray⟩, .int .i64 0, .int .i64 0] 28) = Z := ⟨_, rfl⟩
  have hZ' : w5.alloc (.cells #[.int .i64 (c : Int), encStr s, .int .i64 0, .int .i64 0] 28) = Z := hZ
  rw [hZ'] at HO5 q0 q1 q2 q3 z0 z1 z2 z3 k0 k1 k2 k3
  rw [hZ]
  clear hZ hZ'
  go_wp2
  go_region
  all_goals
    go_wp2
    have hfe := faultEnd (c := c) (y := s) HO5.out (a0 := .int .i64 c) (a1 := encStr s) rfl rfl
    refine bodyPost_ret (v := .tuple #[.slice none 0 0, faV c s]) (rleRes _ _ _ _ _ _ _ _ rfl rfl (by have h9 := hfe.1; first | exact h9 | (simpa [World.drew] using h9))) rfl ?_
    exact lvQ_bad HF.out (by first | exact hfe.2 | exact hfe.2.drew)
set_option maxRecDepth 100000 in
set_option maxHeartbeats 4000000 in
theorem rLevels_good (w : World) (oa : Option Addr) (n ca : Nat) (l : List Md) (h : Mdz w oa n l) (him : n ≤ 32 → ∀ m ∈ l, m.im.length ≤ 100) (hC : accF l = none) : Calls Tryz.prog 13 #[.slice oa n ca] w (lvQ (accF l) (levM l) w) := by
  obtain ⟨hl32, hgood⟩ := accF_none hC
  have hl := h.len
  have hnl := nsP_len l
  have hA : Only (fun _ => False) w (w.alloc (.cells #[.int .i64 0, .string ⟨#[]⟩, .int .i64 0, .int .i64 0] 28)) := (Only.refl _ _).alloc _
  have hW := h.old hA (fun _ _ hc => hc)
  have HNA : Hid (Calls Tryz.prog 28 #[.slice oa n ca] (w.alloc (.cells #[.int .i64 0, .string ⟨#[]⟩, .int .i64 0, .int .i64 0] 28)) fun e w' => e = .returned (faV 0 []) ∧ Only (fun _ => False) (w.alloc (.cells #[.int .i64 0, .string ⟨#[]⟩, .int .i64 0, .int .i64 0] 28)) w') := Lib.hid (by have h8 := rfault_p (w.alloc (.cells #[.int .i64 0, .string ⟨#[]⟩, .int .i64 0, .int .i64 0] 28)) oa n ca l hW him; rw [hC] at h8; exact h8)
  have HNM : Hid (∀ wx, Only (fun _ => False) (w.alloc (.cells #[.int .i64 0, .string ⟨#[]⟩, .int .i64 0, .int .i64 0] 28)) wx → Calls Tryz.prog 29 #[.slice oa n ca] wx fun e w' => ∃ oo co, e = .returned (.slice oo n co) ∧ Strz w' oo n (nsP l) ∧ Only (fun _ => False) wx w') := Lib.hid (fun wx ho => (rNames_p wx oa n ca l (hW.old ho (fun _ _ hc => hc)) (by omega) hgood.nd).mono (by
    rintro e w' ⟨oo, co, h1, h2, h3⟩
    exact ⟨oo, co, h1, h2.strz, h3⟩))
  have HIM : Hid (∀ wx y, Only (w.heap.size ≤ ·) w wx → Calls Tryz.prog 22 #[.slice oa n ca, encStr y] wx fun e w' => ∃ oo cc, e = .returned (.slice oo (impP l y).length cc) ∧ Strz w' oo (impP l y).length (impP l y) ∧ Only (fun _ => False) wx w') := Lib.hid (fun wx y ho => (rImports_p wx oa n ca l y (h.up ho) (by omega) (him (by omega))).mono (by
    rintro e w' ⟨oo, cc, h1, h2, h3⟩
    exact ⟨oo, cc, h1, h2.strz, h3⟩))
  have HIL : Hid (∀ y, (impP l y).length ≤ 1000000) := Lib.hid (fun y => by
    have h9 := impP_len (nm := y) (him (by omega))
    have h10 : l.length * 100 ≤ 32 * 100 := Nat.mul_le_mul_right _ hl32
    omega)
  obtain ⟨H, hH⟩ : ∃ H, (levM l).length = H := ⟨_, rfl⟩
  have HMO : Hid (∀ k, k < H → (doneN l k).length < n) := Lib.hid (fun k hk => by have := hgood.done_more (r := k) (by omega); omega)
  have HAL : Hid ((doneN l H).length = n) := Lib.hid (by have := hgood.done_all; rw [hH] at this; omega)
  have HFR : Hid (∀ r s, s ∈ nsP l → ((s ∉ doneN l r ∧ ∀ t ∈ impP l s, t ∈ doneN l r) ↔ hiM l s = r)) := Lib.hid (fun r s hs => hgood.free hs)
  have HRN : Hid (∀ r, (rowN l r).length ≤ n) := Lib.hid (fun r => by have := hgood.row_ne (r := r); omega)
  have HLV : Hid (levM l = rowsK l H) := Lib.hid (by rw [← hH]; exact hgood.levM_eq)
  have HF := Lib.hid hC
  have HNL : Hid ((nsP l).length = n) := Lib.hid (by omega)
  have hn32 : n ≤ 32 := by omega
  have hH32 : H ≤ 1000001 := by
    by_cases hc : H ≤ 1000001
    · exact hc
    · exfalso
      have key : ∀ k, k ≤ H → k ≤ (doneN l k).length := fun k => by
        induction k with
        | zero => intro _; exact Nat.zero_le _
        | succ k ih =>
          intro hk
          have h1 := ih (by omega)
          have h2 := HMO.out k (by omega)
          by_cases h3 : k + 1 ≤ (doneN l (k + 1)).length
          · exact h3
          · rw [doneN_succ, List.length_append] at h3
            exfalso
            have h4 : rowN l k = [] := List.eq_nil_of_length_eq_zero (by omega)
            obtain ⟨s, hs, h5⟩ := hgood.lev_lt.2 k (by omega)
            have step : ∀ q, ∀ s, s ∈ nsP l → hiM l s = k + q → ∃ t, t ∈ nsP l ∧ hiM l t = k := fun q => by
              induction q with
              | zero => exact fun s hs e => ⟨s, hs, e⟩
              | succ q ihq =>
                intro s hs e
                rcases hgood.hi_eq hs with h6 | ⟨t, ht, h6⟩
                · omega
                · exact ihq t (hgood.hi_lt hs ht).1 (by omega)
            obtain ⟨t, ht, h6⟩ := step (hiM l s - k) s hs (by omega)
            have h7 : t ∈ rowN l k := by unfold rowN; rw [List.mem_filter, decide_eq_true_eq]; exact ⟨ht, h6⟩
            rw [h4] at h7
            cases h7
      have h8 := key H (Nat.le_refl _)
      have := HAL.out
      omega
  obtain ⟨i1', hi1, hj0, hj1, hj2⟩ := info_parts infoStrs
  clear h him hA hW hC hgood hnl hH
  go_enter Tryz.func13, Tryz.ntmps13
  go_wp2_with (first | (go_at_call 28; (with_reducible refine HNA.out.mono ?_); rintro e w5 ⟨rfl, hO5⟩; have HO5 := Lib.hid hO5; clear hO5) | (go_at_call 29; (with_reducible refine (HNM.out _ (HO5.out.alloc _)).mono ?_); rintro e w6 ⟨oN, cN, rfl, hS6, hO6⟩; have HS6 := Lib.hid hS6; have HK6 := Lib.hid ((Bx.new w5).on hO6); have HO6 := Lib.hid ((HO5.out.alloc (.cells #[.int .i64 0, .string ⟨#[]⟩, .int .i64 0, .int .i64 0] 28)).trans hO6); clear hS6 hO6))
  obtain ⟨kb, hkb⟩ : ∃ k, w5.heap.size = k := ⟨_, rfl⟩
  rw [hkb] at HK6
  rw [hkb]
  have HKB : Hid (w.heap.size + 1 ≤ kb ∧ kb < w6.heap.size) := Lib.hid ⟨by have h3 := HO5.out.size; rw [show (w.alloc (.cells #[.int .i64 0, .string ⟨#[]⟩, .int .i64 0, .int .i64 0] 28)).heap.size = w.heap.size + 1 by show (Array.push _ _).size = _; rw [Array.size_push]] at h3; omega, lt_of_block HK6.out⟩
  clear hkb
  go_loopw [5, 6, 8, 9] (fun v d _ _ wr => ∃ (k : Nat) (vs : List Value), k ≤ H ∧ LvS wr w6.heap.size v d vs (rowsK l k) (doneN l k) ∧ Only (w6.heap.size ≤ ·) w6 wr) (fun v _ _ _ _ => H - slN v)
  case atStart => exact ⟨0, [], by omega, LvS.nil _ _, Only.refl _ _⟩
  case round =>
    obtain ⟨k, vs, hk, hL, hO⟩ := hrel
    obtain ⟨W, rfl⟩ : ∃ W, W = wr := ⟨_, rfl⟩
    obtain ⟨ov, cv, hv⟩ := rowForm hL.out.out
    have hrk := rowsK_len l k
    rw [hrk] at hv
    subst hv
    obtain ⟨oD, cD, hd⟩ := rowForm hL.don
    subst hd
    have HOW : Hid (Only (w.heap.size + 1 ≤ ·) (w.alloc (.cells #[.int .i64 0, .string ⟨#[]⟩, .int .i64 0, .int .i64 0] 28)) W) := Lib.hid (HO6.out.lift.trans (hO.wide (K' := (w.heap.size + 1 ≤ ·)) (fun j hj => by have hj' : w6.heap.size ≤ j := hj; have h3 := HKB.out; show w.heap.size + 1 ≤ j; omega)))
    by_cases hkn : k < H
    · have hmo := HMO.out k hkn
      have HFK := Lib.hid (HFR.out k)
      have HRK := Lib.hid (HRN.out k)
      have hrs := rowsK_succ l k
      have hds := doneN_succ l k
      have hrn : rowN l k = (nsP l).filter (fun t => decide (hiM l t = k)) := rfl
      obtain ⟨U, hU⟩ : ∃ U, doneN l k = U := ⟨_, rfl⟩
      obtain ⟨V, hV⟩ : ∃ V, rowsK l k = V := ⟨_, rfl⟩
      rw [hU] at hL hmo HFK hds
      rw [hU]
      rw [hV] at hL hrs hrk
      have HRS := Lib.hid hrs
      have HDS := Lib.hid hds
      have HRN2 := Lib.hid hrn
      have HVL := Lib.hid hrk
      have HL := Lib.hid hL
      have HSW : Hid (w6.heap.size ≤ W.heap.size) := Lib.hid hO.size
      have HO := Lib.hid hO
      have h02 : (U.length : Int) < (n : Int) := by omega
      clear hL hrs hds hrn hrk hU hV hO
      go_wp2
      go_loopw [8, 9] (fun lv q wx => ∃ i : Nat, i ≤ n ∧ q = .int .i64 i ∧ SR wx W.heap.size lv (((nsP l).take i).filter (fun t => decide (hiM l t = k))) ∧ Only (W.heap.size ≤ ·) W wx) (fun _ q _ => n - (intOf q).toNat)
      case atStart => exact ⟨0, by omega, rfl, SR.nil _ _, Only.refl _ _⟩
      case round =>
        obtain ⟨i, hi, rfl, hR, hX⟩ := hrel
        obtain ⟨Wx, rfl⟩ : ∃ Wx, Wx = wr := ⟨_, rfl⟩
        obtain ⟨oR, cR, hv⟩ := rowForm hR
        subst hv
        have HL2 := Lib.hid (HL.out.up hX)
        have HSX : Hid (W.heap.size ≤ Wx.heap.size) := Lib.hid hX.size
        have HOX : Hid (Only (w6.heap.size ≤ ·) w6 Wx) := Lib.hid (HO.out.trans (hX.wide (K' := (w6.heap.size ≤ ·)) (fun j hj => by have hj' : W.heap.size ≤ j := hj; have h3 := HSW.out; show w6.heap.size ≤ j; omega)))
        have HOWX : Hid (Only (w.heap.size ≤ ·) w Wx) := Lib.hid ((boxOnly HOW.out).trans (hX.wide (K' := (w.heap.size ≤ ·)) (fun j hj => by have hj' : W.heap.size ≤ j := hj; have h3 := HSW.out; have h4 := HKB.out; show w.heap.size ≤ j; omega)))
        by_cases hin : i < n
        · have hil : i < (nsP l).length := by have := HNL.out; omega
          obtain ⟨b1, o1, e1, c1⟩ := (HS6.out.up HOX.out).cell i hil
          subst e1
          have hft := filt_take (p := fun t => decide (hiM l t = k)) hil
          obtain ⟨y, hy⟩ : ∃ y, nAt (nsP l) i = y := ⟨_, rfl⟩
          rw [hy] at c1 hft
          have hym : y ∈ nsP l := by rw [← hy, nAt_get hil]; exact List.getElem_mem hil
          have hfy := HFK.out y hym
          obtain ⟨T, hT⟩ : ∃ T, ((nsP l).take i).filter (fun t => decide (hiM l t = k)) = T := ⟨_, rfl⟩
          rw [hT] at hR hft
          rw [hT]
          have HR := Lib.hid hR
          have HTL : Hid (T.length ≤ n) := Lib.hid (by rw [← hT]; refine Nat.le_trans (List.length_filter_le _ _) ?_; rw [List.length_take]; omega)
          have HUS := Lib.hid HL2.out.don.strz
          have HX := Lib.hid hX
          have HIY := Lib.hid (HIM.out Wx y HOWX.out)
          have HCC : Hid (∀ wz, Only (fun _ => False) Wx wz → wz.cell? ⟨b1, o1 + i, none⟩ = some (encStr y)) := Lib.hid (fun wz ho => cell_old c1 ho (fun _ _ hc => hc) rfl)
          have h03 : (0 : Int) ≤ (i : Int) := Int.natCast_nonneg i
          have h04 : (i : Int) < (n : Int) := by omega
          have h05 : (i : Int).toNat = i := Int.toNat_natCast i
          have hiy := HIL.out y
          obtain ⟨Q, hQ⟩ : ∃ Q, impP l y = Q := ⟨_, rfl⟩
          rw [hQ] at HIY hiy hfy
          obtain ⟨x, hx⟩ : ∃ x, decide (y ∈ U) = x := ⟨_, rfl⟩
          have HXD := Lib.hid hx
          have HFY := Lib.hid hfy
          have HFT := Lib.hid hft
          clear hy hym hfy hft hT hR hX hQ hx
          cases x with
          | true =>
            have HN : Hid (((nsP l).take (i + 1)).filter (fun t => decide (hiM l t = k)) = T) := Lib.hid (by
              have h9 : ¬ hiM l y = k := fun e => (HFY.out.2 e).1 (of_decide_eq_true HXD.out)
              rw [HFT.out]
              simp [h9])
            go_wp2_with (go_at_call 21; (with_reducible refine (rHas_p _ oD U.length cD U HUS.out (by omega) y true HXD.out).mono ?_); rintro e w7 ⟨rfl, rfl⟩)
            go_roundw
            case rel => exact ⟨i + 1, by omega, by go_num, by rw [HN.out]; exact HR.out, HX.out⟩
            case measure => simp [intOf]; omega
          | false =>
            obtain ⟨z, hz⟩ : ∃ z, decide (∀ t ∈ Q, t ∈ U) = z := ⟨_, rfl⟩
            have HZ := Lib.hid hz
            clear hz
            cases z with
            | false =>
              have HN : Hid (((nsP l).take (i + 1)).filter (fun t => decide (hiM l t = k)) = T) := Lib.hid (by
                have h9 : ¬ hiM l y = k := fun e => of_decide_eq_false HZ.out (HFY.out.2 e).2
                rw [HFT.out]
                simp [h9])
              go_wp2_with (first | (go_at_call 21; (with_reducible refine (rHas_p _ oD U.length cD U HUS.out (by omega) y false HXD.out).mono ?_); rintro e w7 ⟨rfl, rfl⟩) | (go_at_call 22; (with_reducible refine HIY.out.mono ?_); rintro e w8 ⟨oQ, cQ, rfl, hS8, hO8⟩; have HS8 := Lib.hid hS8; have HO8 := Lib.hid hO8; clear hS8 hO8) | (go_at_call 30; (with_reducible refine (within_p w8 oQ oD Q.length U.length cQ cD Q U HS8.out (HUS.out.old HO8.out (fun _ _ hc => hc)) hiy (by omega) false HZ.out).mono ?_); rintro e w9 ⟨rfl, rfl⟩))
              go_roundw
              case rel => exact ⟨i + 1, by omega, by go_num, by rw [HN.out]; exact HR.out.only HO8.out (fun _ _ hc => hc), HX.out.trans HO8.out.lift⟩
              case measure => simp [intOf]; omega
            | true =>
              have HN : Hid (((nsP l).take (i + 1)).filter (fun t => decide (hiM l t = k)) = T ++ [y]) := Lib.hid (by
                have h9 : hiM l y = k := HFY.out.1 ⟨of_decide_eq_false HXD.out, of_decide_eq_true HZ.out⟩
                rw [HFT.out]
                simp [h9])
              go_wp2_with (first | (go_at_call 21; (with_reducible refine (rHas_p _ oD U.length cD U HUS.out (by omega) y false HXD.out).mono ?_); rintro e w7 ⟨rfl, rfl⟩) | (go_at_call 22; (with_reducible refine HIY.out.mono ?_); rintro e w8 ⟨oQ, cQ, rfl, hS8, hO8⟩; have HS8 := Lib.hid hS8; have HO8 := Lib.hid hO8; have c8 := HCC.out _ hO8; clear hS8 hO8) | (go_at_call 30; (with_reducible refine (within_p w8 oQ oD Q.length U.length cQ cD Q U HS8.out (HUS.out.old HO8.out (fun _ _ hc => hc)) hiy (by omega) true HZ.out).mono ?_); rintro e w9 ⟨rfl, rfl⟩) | (at_builtin; refine wpList_append_nm rfl _ _ rfl W.heap.size (.slice oR T.length cR) T rfl (SR.al (HR.out.only HO8.out (fun _ _ hc => hc)) _) _ 1 1 [y] rfl (strz_one _ y _) (by have := HTL.out; omega) (al_le (Nat.le_trans HSX.out HO8.out.size) _) ?_; intro oq cq w12 hq; have HA1 := Lib.hid hq.1; have HO1 := Lib.hid (((HX.out.trans HO8.out.lift).alloc _).trans hq.2); clear hq))
              go_roundw
              case rel => exact ⟨i + 1, by omega, by go_num, by rw [HN.out]; exact HA1.out, HO1.out⟩
              case measure => simp [intOf]; omega
        · have hie : (nsP l).length = i := by have := HNL.out; omega
          have h03 : ¬ (i : Int) < (n : Int) := by omega
          have htk : (nsP l).take i = nsP l := take_all hie
          rw [htk, ← HRN2.out] at hR
          rw [htk, ← HRN2.out]
          obtain ⟨Lr, hLr⟩ : ∃ Lr, rowN l k = Lr := ⟨_, rfl⟩
          rw [hLr] at hR HRK HRS HDS
          rw [hLr]
          have HR := Lib.hid hR
          have hrl := HRK.out
          have HDB : Hid (∀ g, (Value.slice oD U.length cD).ownBlock = some g → g < W.heap.size) := Lib.hid (fun g hg => (World.ownsRow.lt HL.out.don g hg).2)
          clear hR hX htk hie hLr
          go_wp2_with (first | (at_builtin; refine wpList_append_nr rfl _ _ rfl w6.heap.size (.slice oD U.length cD) U rfl HL2.out.don oR Lr.length cR Lr rfl HR.out.strz (by omega) (Nat.le_trans HSW.out HSX.out) ?_; intro od cd w12 hq; have HQ1 := Lib.hid (HL2.out.done hq); have HQ2 := Lib.hid (HL2.out.level hq HR.out HDB.out); have HQ3 := Lib.hid hq.2.1; clear hq) | (at_builtin; refine wpList_append_lies _ rfl _ _ 31 rfl w6.heap.size 25 i1' (.slice none 0 0) 1 24 Tryz.underlying31 hi1 hj0 hj1 hj2 rfl (by decide) (.slice ov k cv) k vs rfl (World.ownsRow.alloc (by have h9 := HQ1.out.out.out; rw [HVL.out] at h9; exact h9) _) ⟨w12.heap.size, 0, none⟩ 1 1 [.slice oR Lr.length cR] rfl rfl (World.news_of_block (new_block w12 _)) (fun u hu => by rw [List.mem_singleton.1 hu]; rfl) Nat.one_pos (by unfold maxLen; omega) (by omega) (al_le (Nat.le_trans (Nat.le_trans HSW.out HSX.out) HQ3.out.size) _) _ rfl ?_; intro g2 cg2 w13 hown8 hgrow8 hat8 hlt8))
          have hal : Only (fun _ => False) w12 (w12.alloc (.cells #[.slice oR Lr.length cR] 25)) := (Only.refl _ _).alloc _
          have hup := HQ1.out.up hal.lift
          have hxr : SR (w12.alloc (.cells #[.slice oR Lr.length cR] 25)) w6.heap.size (.slice oR Lr.length cR) Lr := rowMono (HQ2.out.1.only hal (fun _ _ hc => hc)) HSW.out
          have hpp := hup.push hgrow8 hxr HQ2.out.2 (by rw [HVL.out]; exact hown8)
          have hof : Only (w6.heap.size ≤ ·) w6 w13 := (HOX.out.trans (Only.grown (K := (w6.heap.size ≤ ·)) HQ3.out (fun g hg => (World.ownsRow.lt HL2.out.don g hg).1))).trans (hal.lift.trans (Only.grown (K := (w6.heap.size ≤ ·)) hgrow8 (fun g hg => (World.ownsRow.lt hup.out.out g hg).1)))
          rw [← HRS.out, ← HDS.out] at hpp
          go_roundw
          case rel => exact ⟨k + 1, _, by omega, hpp, hof⟩
          case measure =>
            show H - (k + 1) < H - k
            omega
    · have hke : k = H := by omega
      rw [hke] at hL
      have hal := HAL.out
      rw [hke]
      obtain ⟨U, hU⟩ : ∃ U, doneN l H = U := ⟨_, rfl⟩
      rw [hU] at hL hal
      rw [hU]
      have h02 : ¬ (U.length : Int) < (n : Int) := by omega
      have hr2 := hL.out
      rw [← HLV.out] at hr2
      have hlen : (levM l).length = H := by rw [HLV.out]; exact rowsK_len l H
      have HR2 := Lib.hid hr2
      have HLN := Lib.hid hlen
      have hbx := boxAt HOW.out
      obtain ⟨q0, z0⟩ := blk_c (k := 0) hbx rfl
      obtain ⟨q1, z1⟩ := blk_c (k := 1) hbx rfl
      obtain ⟨q2, z2⟩ := blk_c (k := 2) hbx rfl
      obtain ⟨q3, z3⟩ := blk_c (k := 3) hbx rfl
      have hk2 : Bx W kb 0 ⟨#[]⟩ := (hO.block kb HKB.out.2 (fun hc => by have hc' : w6.heap.size ≤ kb := hc; have := HKB.out; omega)).trans HK6.out
      obtain ⟨k0, k1, k2, k3⟩ := hk2.cells
      have d1 : ¬ kb = w.heap.size := by have := HKB.out; omega
      have d2 : ¬ w.heap.size = kb := by have := HKB.out; omega
      clear hL hO hbx hk2 hr2 hlen hal hU hrk hke hkn hk
      go_wp2
      go_region
      all_goals
        go_wp2
        have hfe := faultEnd (c := 0) (y := []) HOW.out (a0 := .int .i64 0) (a1 := .string ⟨#[]⟩) rfl rfl
        have hset := only4 (f0 := .int .i64 0) (f1 := .string ⟨#[]⟩) (f2 := .int .i64 0) (f3 := .int .i64 0) (Only.refl (· = w.heap.size) W) (c := w.heap.size) rfl
        have hend := HR2.out.only hset (fun g _ hg e => by have e' : g = w.heap.size := e; have h3 := HKB.out; omega)
        have hsz := hend.srz' HLN.out
        have hsz2 := (hend.only ((Only.refl (fun _ => False) _).drew) (fun _ _ _ hc => hc)).srz' HLN.out
        refine bodyPost_ret (v := .tuple #[.slice ov H cv, faV 0 []]) (rleRes _ _ _ _ _ _ _ _ rfl rfl (by have h9 := hfe.1; first | exact h9 | (simpa [World.drew] using h9))) rfl ?_
        first
          | exact lvQ_good HF.out hsz hfe.2
          | exact lvQ_good HF.out hsz2 hfe.2.drew
theorem rLevels_p (w : World) (oa : Option Addr) (n ca : Nat) (l : List Md) (h : Mdz w oa n l) (him : n ≤ 32 → ∀ m ∈ l, m.im.length ≤ 100) : Calls Tryz.prog 13 #[.slice oa n ca] w (lvQ (accF l) (levM l) w) := by
  cases hC : accF l with
  | some x =>
    obtain ⟨c, s⟩ := x
    rw [← hC]
    exact rLevels_bad w oa n ca l h him c s hC
  | none =>
    rw [← hC]
    exact rLevels_good w oa n ca l h him hC
end Go.Proofs.YtigmdiagdlbdpaaGreat
namespace Go.Proofs.YtigmdiagdlbdpaaGreat
open Go.RowKit Go.Maps
theorem srz_keep {w w' : World} {oa : Option Addr} {n : Nat} {L : List (List Nm)} (h : Srz w oa n L) (ho : Only (fun _ => False) w w') : Srz w' oa n L := ⟨h.len, fun k hk => by
  obtain ⟨b, o, ra, rn, rc, h1, h2, h3⟩ := h.cell k hk
  exact ⟨b, o, ra, rn, rc, h1, cell_old h2 ho (fun _ _ hc => hc) rfl, h3.old ho (fun _ _ hc => hc)⟩⟩
/-- Levels and a fault, whichever. -/
def LvU (c : Nat) (s : Nm) (k : Nat) (L : List (List Nm)) (w : World) (e : Ending) (w' : World) : Prop := ∃ oa ca, e = .returned (.tuple #[.slice oa k ca, faV c s]) ∧ Srz w' oa k L ∧ Only (fun _ => False) w w'
def fV : Option (Nat × Nm) → List (List Nm) → List (List Nm)
  | some _, _ => []
  | none, L => L
theorem LvU_q {F : Option (Nat × Nm)} {L : List (List Nm)} {w w' : World} {e : Ending} (h : lvQ F L w e w') : LvU (fC F) (fS F) (fV F L).length (fV F L) w e w' := by
  unfold lvQ at h
  cases F with
  | some x => exact ⟨none, 0, h.1, ⟨rfl, fun k hk => absurd hk (Nat.not_lt_zero _)⟩, h.2⟩
  | none =>
    obtain ⟨⟨oa, na, ca, h1, h2⟩, h3⟩ := h
    have h4 : L.length = na := h2.len
    subst h4
    exact ⟨oa, ca, h1, h2, h3⟩
theorem Good.lev_short {l : List Md} (hgood : Good l) : (levM l).length ≤ l.length := by
  have key : ∀ k, k ≤ (levM l).length → k ≤ (doneN l k).length := fun k => by
    induction k with
    | zero => intro _; exact Nat.zero_le _
    | succ k ih =>
      intro hk
      have h1 := ih (by omega)
      by_cases h3 : k + 1 ≤ (doneN l (k + 1)).length
      · exact h3
      · rw [doneN_succ, List.length_append] at h3
        exfalso
        have h4 : rowN l k = [] := List.eq_nil_of_length_eq_zero (by omega)
        obtain ⟨s, hs, h5⟩ := hgood.lev_lt.2 k (by omega)
        have step : ∀ q, ∀ s, s ∈ nsP l → hiM l s = k + q → ∃ t, t ∈ nsP l ∧ hiM l t = k := fun q => by
          induction q with
          | zero => exact fun s hs e => ⟨s, hs, e⟩
          | succ q ihq =>
            intro s hs e
            rcases hgood.hi_eq hs with h6 | ⟨t, ht, h6⟩
            · omega
            · exact ihq t (hgood.hi_lt hs ht).1 (by omega)
        obtain ⟨t, ht, h6⟩ := step (hiM l s - k) s hs (by omega)
        have h7 : t ∈ rowN l k := by unfold rowN; rw [List.mem_filter, decide_eq_true_eq]; exact ⟨ht, h6⟩
        rw [h4] at h7
        cases h7
  exact Nat.le_trans (key _ (Nat.le_refl _)) (doneN_le l _)
set_option maxRecDepth 100000 in
set_option maxHeartbeats 4000000 in
theorem order_core (w : World) (oa : Option Addr) (n ca : Nat) (HSM : Hid (Calls Tryz.prog 8 #[.slice oa n ca] w fun e w' => e = .returned (.bool true) ∧ w' = w)) (c : Nat) (s : Nm) (p q : Nat) (P : List Nm) (V : List (List Nm)) (hp : p ≤ 1000000) (hq : q ≤ 1000000) (hV : ∀ r ∈ V, r.length ≤ 1000000)
    (HP1 : Hid (Calls Tryz.prog 10 #[.slice oa n ca] w (NmU c s p P w)))
    (HP2 : Hid (∀ wx, Only (fun _ => False) w wx → Calls Tryz.prog 11 #[.slice oa n ca] wx (NmU c s p P wx)))
    (HP3 : Hid (∀ wx, Only (fun _ => False) w wx → Calls Tryz.prog 12 #[.slice oa n ca] wx (LvU c s q V wx)))
    (HP4 : Hid (∀ wx, Only (fun _ => False) w wx → Calls Tryz.prog 13 #[.slice oa n ca] wx (LvU c s q V wx))) : Calls Tryz.prog 3 #[.slice oa n ca] w fun e w' => e = .returned (.bool true) ∧ Only (fun _ => False) w w' := by
  have HVV := Lib.hid hV
  clear hV
  go_enter Tryz.func3, Tryz.ntmps3
  go_wp2_with (first
    | (go_at_call 8; (refine HSM.out.mono ?_); rintro e w4 ⟨rfl, rfl⟩)
    | (go_at_call 10; (with_reducible refine HP1.out.mono ?_); rintro e w5 ⟨o1, c1, rfl, hS5, hO5⟩; have HS5 := Lib.hid hS5; have HO5 := Lib.hid hO5; clear hS5 hO5)
    | (go_at_call 11; (with_reducible refine (HP2.out _ (HO5.out.alloc _)).mono ?_); rintro e w6 ⟨o2, c2, rfl, hS6, hO6⟩; have HS6 := Lib.hid hS6; have HB6 := Lib.hid ((Bx.newF w5 c s).on hO6); have HO6 := Lib.hid ((Only.al w5 (.cells #[.int .i64 (c : Int), encStr s, .int .i64 0, .int .i64 0] 28)).trans hO6); clear hS6 hO6)
    | (go_at_call 12; (with_reducible refine (HP3.out _ ((HO5.out.trans HO6.out).alloc _)).mono ?_); rintro e w7 ⟨o3, c3, rfl, hS7, hO7⟩; have HS7 := Lib.hid hS7; have HB7 := Lib.hid ((Bx.newF w6 c s).on hO7); have HO7 := Lib.hid ((Only.al w6 (.cells #[.int .i64 (c : Int), encStr s, .int .i64 0, .int .i64 0] 28)).trans hO7); clear hS7 hO7)
    | (go_at_call 13; (with_reducible refine (HP4.out _ ((HO5.out.trans (HO6.out.trans HO7.out)).alloc _)).mono ?_); rintro e w8 ⟨o4, c4, rfl, hS8, hO8⟩; have HS8 := Lib.hid hS8; have HB8 := Lib.hid ((Bx.newF w7 c s).on hO8); have HO8 := Lib.hid ((Only.al w7 (.cells #[.int .i64 (c : Int), encStr s, .int .i64 0, .int .i64 0] 28)).trans hO8); have HA8 := Lib.hid (Only.al w8 (.cells #[.int .i64 (c : Int), encStr s, .int .i64 0, .int .i64 0] 28)); have HS5b := Lib.hid (HS5.out.old (HO6.out.trans (HO7.out.trans (HO8.out.trans HA8.out))) (fun _ _ hc => hc)); have HS6b := Lib.hid (HS6.out.old (HO7.out.trans (HO8.out.trans HA8.out)) (fun _ _ hc => hc)); clear hS8 hO8)
    | (go_at_call 14; (with_reducible refine (sameT (w8.alloc (.cells #[.int .i64 (c : Int), encStr s, .int .i64 0, .int .i64 0] 28)) o1 o2 p c1 c2 P HS5b.out HS6b.out hp).mono ?_); rintro e w9 ⟨rfl, hO9⟩; have HO9 := Lib.hid (HA8.out.trans hO9); have HB9 := Lib.hid ((Bx.newF w8 c s).on hO9); obtain ⟨f0, f1, f2, f3⟩ := (HB6.out.on (HO7.out.trans (HO8.out.trans HO9.out))).cells; obtain ⟨g0, g1, g2, g3⟩ := (HB7.out.on (HO8.out.trans HO9.out)).cells; obtain ⟨h0, h1, h2, h3⟩ := (HB8.out.on HO9.out).cells; obtain ⟨i0, i1, i2, i3⟩ := HB9.out.cells; have HS7b := Lib.hid (srz_keep HS7.out (HO8.out.trans HO9.out)); have HS8b := Lib.hid (srz_keep HS8.out HO9.out); clear hO9))
  clear f0 f1 f2 f3 g0 g1 g2 g3 h0 h1 h2 h3 i0 i1 i2 i3
  go_loopw [11] (fun v wr => ∃ i : Nat, i ≤ q ∧ v = .int .i64 i ∧ Only (fun _ => False) w9 wr) (fun v _ => q - (intOf v).toNat)
  case atStart => exact ⟨0, by omega, rfl, Only.refl _ _⟩
  case round =>
    obtain ⟨i, hi, rfl, hO⟩ := hrel
    by_cases hiq : i < q
    · have hiV : i < V.length := by have h9 : V.length = q := HS7b.out.len; omega
      obtain ⟨b1, a1, ra, rn, rc, e1, d1, z1⟩ := HS7b.out.cell i hiV
      obtain ⟨b2, a2, rb, rm, rd, e2, d2, z2⟩ := HS8b.out.cell i hiV
      subst e1
      subst e2
      have hn1 : V[i].length = rn := z1.len
      have hn2 : V[i].length = rm := z2.len
      have hvb := HVV.out _ (List.getElem_mem hiV)
      obtain ⟨r, hr⟩ : ∃ r, V[i] = r := ⟨_, rfl⟩
      rw [hr] at z1 z2 hn1 hn2 hvb
      have hnm : rm = rn := by omega
      rw [hnm] at z2 d2
      have hrn : rn ≤ 1000000 := by omega
      have HZ1 := Lib.hid z1
      have HZ2 := Lib.hid z2
      have h01 : (0 : Int) ≤ (i : Int) := Int.natCast_nonneg i
      have h02 : (i : Int) < (q : Int) := by omega
      have h03 : (i : Int).toNat = i := Int.toNat_natCast i
      have HK : Hid (∀ a, Only (fun _ => False) w9 a → (Only (fun _ => False) w9 a ∧ a.cell? ⟨b1, a1 + i, none⟩ = some (.slice ra rn rc) ∧ a.cell? ⟨b2, a2 + i, none⟩ = some (.slice rb rn rd))) := Lib.hid (fun a ho => ⟨ho, cell_old d1 ho (fun _ _ hc => hc) rfl, cell_old d2 ho (fun _ _ hc => hc) rfl⟩)
      have HW := Lib.hid hO
      have hs0 := HK.out wr.drew hO.drew
      obtain ⟨-, x1, x2⟩ := HK.out wr hO
      obtain ⟨-, y1, y2⟩ := hs0
      clear d1 d2 z1 z2 hn1 hn2 hvb hr hnm hO hiV
      go_wp2
      go_still_tail 8, (by kernel_rfl)
      change wpList _ _ _ _ _ wr.drew
      go_wp2_with (go_at_call 14; (with_reducible refine (sameT _ ra rb rn rc rd r (HZ1.out.old HW.out.drew (fun _ _ hc => hc)) (HZ2.out.old HW.out.drew (fun _ _ hc => hc)) hrn).mono ?_); rintro e w7 ⟨rfl, hO7⟩; have hs7 := HK.out w7 (HW.out.drew.trans hO7))
      go_roundw
      case rel => exact ⟨i + 1, by omega, by go_num, hs7.1⟩
      case measure => simp [intOf]; omega
    · have hie : i = q := by omega
      have h02 : ¬ (i : Int) < (q : Int) := by omega
      have HW := Lib.hid hO
      clear hO hie
      go_wp2_with (go_at_call 9; (refine (awake_p _).mono ?_); rintro e w11 ⟨rfl, hO11⟩)
      go_ret
      exact ⟨rfl, HO5.out.trans (HO6.out.trans (HO7.out.trans (HO8.out.trans (HO9.out.trans (HW.out.trans hO11)))))⟩
set_option maxRecDepth 100000 in
set_option maxHeartbeats 4000000 in
theorem ModgraphOrder_walk (w : World) (oa : Option Addr) (n ca : Nat) (l : List Md) (h : Mdz w oa n l) (hn : n ≤ maxLen) (hsz : ∀ m ∈ l, SzM m) : Calls Tryz.prog 3 #[.slice oa n ca] w fun e w' => e = .returned (.bool true) ∧ Only (fun _ => False) w w' := by
  obtain ⟨x, hx⟩ : ∃ x, smallM l = x := ⟨_, rfl⟩
  have HSM := Lib.hid (mSmall_p w oa n ca l h hn x hx)
  cases x with
  | false =>
    clear h hsz hx
    go_enter Tryz.func3, Tryz.ntmps3
    go_wp2_with (first | (go_at_call 8; (refine HSM.out.mono ?_); rintro e w4 ⟨rfl, rfl⟩) | (go_at_call 9; (refine (awake_p _).mono ?_); rintro e w9 ⟨rfl, hO9⟩))
    go_ret
    exact ⟨rfl, hO9⟩
  | true =>
    have hok := okL_small hx hsz
    have him : n ≤ 32 → ∀ m ∈ l, m.im.length ≤ 100 := fun _ m hm => by have := smallM_im hx m hm; omega
    have hl := h.len
    have k1 : (fL (accF l) (ordM l)).length ≤ 1000000 := by
      cases hF : accF l with
      | some x => exact Nat.zero_le _
      | none =>
        obtain ⟨h1, h2⟩ := accF_none hF
        have h3 := h2.len
        show (ordM l).length ≤ _
        omega
    have k2 : (fV (accF l) (levM l)).length ≤ 1000000 := by
      cases hF : accF l with
      | some x => exact Nat.zero_le _
      | none =>
        obtain ⟨h1, h2⟩ := accF_none hF
        have h3 := h2.lev_short
        show (levM l).length ≤ _
        omega
    have k3 : ∀ r ∈ fV (accF l) (levM l), r.length ≤ 1000000 := by
      cases hF : accF l with
      | some x => exact fun r hr => absurd hr (List.not_mem_nil)
      | none =>
        obtain ⟨h1, h2⟩ := accF_none hF
        intro r hr
        have hr' : r ∈ levM l := hr
        rw [h2.levM_eq] at hr'
        obtain ⟨k, -, e⟩ := List.mem_map.1 hr'
        have h3 := h2.row_ne (r := k)
        rw [← e]
        omega
    have p1 : Calls Tryz.prog 10 #[.slice oa n ca] w (NmU (fC (accF l)) (fS (accF l)) (fL (accF l) (ordM l)).length (fL (accF l) (ordM l)) w) := (Order_p w oa n ca l h (fun _ => hok)).mono (fun e w' hh => NmU_q hh)
    have p2 : ∀ wx, Only (fun _ => False) w wx → Calls Tryz.prog 11 #[.slice oa n ca] wx (NmU (fC (accF l)) (fS (accF l)) (fL (accF l) (ordM l)).length (fL (accF l) (ordM l)) wx) := fun wx ho => (rOrder_p wx oa n ca l (h.old ho (fun _ _ hc => hc)) him).mono (fun e w' hh => NmU_f hh)
    have p3 : ∀ wx, Only (fun _ => False) w wx → Calls Tryz.prog 12 #[.slice oa n ca] wx (LvU (fC (accF l)) (fS (accF l)) (fV (accF l) (levM l)).length (fV (accF l) (levM l)) wx) := fun wx ho => (mLevels_p wx oa n ca l (h.old ho (fun _ _ hc => hc)) (fun _ => hok)).mono (fun e w' hh => LvU_q hh)
    have p4 : ∀ wx, Only (fun _ => False) w wx → Calls Tryz.prog 13 #[.slice oa n ca] wx (LvU (fC (accF l)) (fS (accF l)) (fV (accF l) (levM l)).length (fV (accF l) (levM l)) wx) := fun wx ho => (rLevels_p wx oa n ca l (h.old ho (fun _ _ hc => hc)) him).mono (fun e w' hh => LvU_q hh)
    exact order_core w oa n ca HSM _ _ _ _ _ _ k1 k2 k3 (Lib.hid p1) (Lib.hid p2) (Lib.hid p3) (Lib.hid p4)
end Go.Proofs.YtigmdiagdlbdpaaGreat
