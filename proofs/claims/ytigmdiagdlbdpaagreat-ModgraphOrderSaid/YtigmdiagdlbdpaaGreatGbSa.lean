/-
  WALKS. The graph: what ordered's last loops keep: the heap, the waits, the list of components.
-/
import Derived.Test.YtigmdiagdlbdpaaGreatGbS
namespace Go.Proofs.YtigmdiagdlbdpaaGreat
open Go.RowKit Go.Maps
theorem HB.keepO {w w' : World} {B b : Nat} {v : Value} {l : List Nat} {K : Nat → Prop} (h : HB w B b v l) (ho : Only K w w') (hb : ¬ K b) (hk : ∀ g, v.ownBlock = some g → ¬ K g) : HB w' B b v l :=
  ⟨(ho.block b h.lt hb).trans h.blk, h.low, h.row.only ho hk⟩
/-- A row of slices lies apart from the heap's variable. -/
theorem HB.apart {w : World} {B b B' n size : Nat} {v v' : Value} {l : List Nat} {xs : List Value} (h : HB w B b v l) (h' : w.ownsRow B' 55 size v' n xs) : v'.ownBlock ≠ some b := by
  intro hg
  rcases h'.2 with ⟨hv, -⟩ | ⟨g', cap, cur, hv, -, hb', -⟩
  · rw [hv] at hg; cases hg
  · rw [hv] at hg
    cases hg
    rw [h.blk] at hb'
    exact absurd (Obj.cells.inj (Option.some.inj hb')).2.1 (by decide)
structure DM (w1 wb : World) (b m : Nat) (cv : Nat → Value) (w : World) (v vl : Value) (W H D : List Nat) : Prop where
  hb : HB w b b v H
  wt : IR w w1.heap.size (.slice (some ⟨w1.heap.size + 1, 0, none⟩) m m) W
  li : w.ownsRow b 55 1 vl D.length (D.map cv)
  fr : Only (fun i => i = w1.heap.size + 1 ∨ b ≤ i) wb w
  lo : w1.heap.size + 1 < b
  bs : wb.heap.size = b
section
variable {w1 wb w w' w3 : World} {b m : Nat} {cv : Nat → Value} {v vl : Value} {W H D : List Nat} {vs : List Value} {s : OU}
theorem DM.same (h : DM w1 wb b m cv w v vl W H D) (ho : Only (fun _ => False) w w') : DM w1 wb b m cv w' v vl W H D :=
  ⟨h.hb.same ho, h.wt.only ho (fun _ _ hc => hc), rowKeep h.li (fun g hg => ho.block g (World.ownsRow.lt h.li g hg).2 (fun hc => hc)), h.fr.trans ho.lift, h.lo, h.bs⟩
theorem DM.heap (h : DM w1 wb b m cv w v vl W H D) {v' : Value} {H' : List Nat} (hH : HB w' b b v' H') (hF : FG b b w w') : DM w1 wb b m cv w' v' vl W H' D := by
  have hlo := h.lo
  refine ⟨hH, h.wt.only hF (fun g hg hc => ?_), rowKeep h.li (fun g hg => hF.block g (World.ownsRow.lt h.li g hg).2 (fun hc => ?_)), h.fr.trans (hF.wide (fun i hi => ?_)), h.lo, h.bs⟩
  · have hg' : w1.heap.size + 1 = g := Option.some.inj hg
    rcases hc with e | ⟨e, -⟩ <;> omega
  · rcases hc with e | ⟨-, cs, mk, e⟩
    · exact h.hb.apart h.li (by rw [hg, e])
    · rcases h.li.2 with ⟨hv, -⟩ | ⟨g', cap, cur, hv, -, hb', -⟩
      · rw [hv] at hg; cases hg
      · rw [hv] at hg
        cases hg
        rw [e] at hb'
        exact absurd (Obj.cells.inj (Option.some.inj hb')).2.1 (by decide)
  · rcases hi with e | ⟨e, -⟩
    · right; omega
    · exact .inr e
theorem DM.setW (h : DM w1 wb b m cv w v vl W H D) {j : Nat} (hj : j < W.length) (x : Nat) : DM w1 wb b m cv (w.setCell ⟨w1.heap.size + 1, j, none⟩ (iV x)) v vl (W.set j x) H D := by
  have hlo := h.lo
  have hO : Only (· = w1.heap.size + 1) w (w.setCell ⟨w1.heap.size + 1, j, none⟩ (iV x)) := Only.setCell (K := (· = w1.heap.size + 1)) (Only.refl _ _) rfl _
  refine ⟨h.hb.keepO hO (fun e => by have e' : b = w1.heap.size + 1 := e; omega) (fun g hg e => ?_), IR.set h.wt hj x, rowKeep h.li (fun g hg => hO.block g (World.ownsRow.lt h.li g hg).2 (fun e => ?_)), h.fr.trans (hO.wide (fun i hi => .inl hi)), h.lo, h.bs⟩
  · have h1 := (World.ownsRow.lt h.hb.row g hg).1
    have e' : g = w1.heap.size + 1 := e
    omega
  · have h1 := (World.ownsRow.lt h.li g hg).1
    have e' : g = w1.heap.size + 1 := e
    omega
theorem DM.put (h : DM w1 wb b m cv w v vl W H D) (hg : w.grownBy w3 vl.ownBlock) {vl' : Value} {p : Nat} (hrow : w3.ownsRow b 55 1 vl' (D.length + 1) (D.map cv ++ [cv p])) : DM w1 wb b m cv w3 v vl' W H (D ++ [p]) := by
  have hlo := h.lo
  refine ⟨⟨(hg.block b h.hb.lt (fun e => h.hb.apart h.li e.symm)).trans h.hb.blk, h.hb.low, rowKeep h.hb.row (fun g hgi => hg.block g (World.ownsRow.lt h.hb.row g hgi).2 (fun e => rowApart h.hb.row h.li (by decide) hgi e.symm))⟩, rowKeep h.wt (fun g hgi => hg.block g (World.ownsRow.lt h.wt g hgi).2 (fun e => ?_)), by rw [List.length_append, List.map_append]; exact hrow, h.fr.trans (Only.grown hg (fun g e => .inr (World.ownsRow.lt h.li g e).1)), h.lo, h.bs⟩
  have hg' : w1.heap.size + 1 = g := Option.some.inj hgi
  have := (World.ownsRow.lt h.li g e.symm).1
  omega
theorem DM.users (h : DM w1 wb b m cv w v vl W H D) (hM : UM w1 wb m vs s) : RR w w1.heap.size (.slice (some ⟨w1.heap.size, 0, none⟩) m m) vs s.users := by
  have hlo := h.lo
  have hbs := h.bs
  refine ⟨rowKeep hM.rr.out (fun g hg => h.fr.block g (World.ownsRow.lt hM.rr.out g hg).2 (fun hc => ?_)), fun i hi => (hM.rr.row i hi).only h.fr (fun g hg hc => ?_), hM.rr.dis⟩
  · have hg' : w1.heap.size = g := Option.some.inj hg
    rcases hc with e | e <;> omega
  · have := (World.ownsRow.lt (hM.rr.row i hi) g hg).2
    rcases hc with e | e
    · exact hM.ap i hi (by rw [hg, e])
    · omega
theorem DM.all (h : DM w1 wb b m cv w v vl W H D) (hM : UM w1 wb m vs s) : Only (w1.heap.size ≤ ·) w1 w :=
  hM.fr.trans (h.fr.wide (fun i hi => by have := h.lo; show w1.heap.size ≤ i; rcases hi with e | e <;> omega))
/-- The components' values. -/
def CV (w : World) (B : Nat) (oc : Option Addr) (L : List (List Nat)) (cv : Nat → Value) : Prop := ∀ k, k < L.length → ∃ b o ra rn rc, oc = some ⟨b, o, none⟩ ∧ B ≤ b ∧ cv k = .slice ra rn rc ∧ w.cell? ⟨b, o + k, none⟩ = some (.slice ra rn rc) ∧ IntsB w B ra rn (lAt L k)
theorem EdgB.vals {oc : Option Addr} {B n : Nat} {L : List (List Nat)} (h : EdgB w B oc n L) : ∃ cv, CV w B oc L cv := by
  have : ∀ k, ∃ v : Value, k < L.length → ∃ b o ra rn rc, oc = some ⟨b, o, none⟩ ∧ B ≤ b ∧ v = .slice ra rn rc ∧ w.cell? ⟨b, o + k, none⟩ = some (.slice ra rn rc) ∧ IntsB w B ra rn (lAt L k) := fun k => by
    by_cases hk : k < L.length
    · obtain ⟨b, o, ra, rn, rc, h1, hB, h2, h3⟩ := h.cell k hk
      exact ⟨.slice ra rn rc, fun _ => ⟨b, o, ra, rn, rc, h1, hB, rfl, h2, h3⟩⟩
    · exact ⟨nilV, fun hk' => absurd hk' hk⟩
  exact ⟨fun k => Classical.choose (this k), fun k => Classical.choose_spec (this k)⟩
theorem CV.old {oc : Option Addr} {B : Nat} {L : List (List Nat)} {K : Nat → Prop} (h : CV w B oc L cv) (ho : Only K w w') (hk : ∀ i, B ≤ i → i < w.heap.size → ¬ K i) : CV w' B oc L cv := fun k hl => by
  obtain ⟨b, o, ra, rn, rc, h1, hB, h2, h3, h4⟩ := h k hl
  have hb := cell_lt h3
  exact ⟨b, o, ra, rn, rc, h1, hB, h2, (World.cell?_of_block (ho.block b hb (hk b hB hb))).trans h3, h4.old ho hk⟩
/-- What is handed back. -/
theorem DM.edg {oc ol : Option Addr} {L : List (List Nat)} {B nl cl : Nat} (h : DM w1 wb b m cv w v (.slice ol nl cl) W H D) (hM : UM w1 wb m vs s) (hC : CV w1 B oc L cv) (hB : B ≤ w1.heap.size) (hD : ∀ c ∈ D, c < L.length) : EdgB w B ol nl (D.map (lAt L)) := by
  have hC' := hC.old (h.all hM) (fun i _ hi hc => by have hc' : w1.heap.size ≤ i := hc; omega)
  have hlo := h.lo
  obtain ⟨oa', ca', hv⟩ := rowForm h.li
  cases hv
  refine ⟨List.length_map _, fun k hk => ?_⟩
  have hkD : k < D.length := by rw [List.length_map] at hk; exact hk
  obtain ⟨b', o, ra, rn, rc, -, -, h2, h3, h4⟩ := hC' D[k] (hD _ (List.getElem_mem hkD))
  rcases h.li.2 with ⟨-, hn⟩ | ⟨g, cap, cur, hv, hgb, hg, -⟩
  · omega
  · cases hv
    have hc := World.ownsRow.cells h.li (g := g) rfl k (cv D[k]) (by rw [List.getElem?_map, List.getElem?_eq_getElem hkD]; rfl)
    rw [add_plain] at hc
    refine ⟨g, 0, ra, rn, rc, rfl, by omega, by rw [hc, h2], ?_⟩
    have e : lAt (D.map (lAt L)) k = lAt L D[k] := by
      show (D.map (lAt L)).getD k [] = _
      rw [List.getD_eq_getElem?_getD, List.getElem?_map, List.getElem?_eq_getElem hkD]
      rfl
    rw [e]
    exact h4
end
theorem rest_mono (U : List (List Nat)) (D : List Nat) (c : Nat) : ∀ k, restN U D c k ≤ restN U [] c k
  | 0 => Nat.le_refl _
  | k + 1 => by
    have ih := rest_mono U D c k
    show restN U D c k + (if k ∈ D then 0 else (lAt U k).count c) ≤ restN U [] c k + (if k ∈ [] then 0 else (lAt U k).count c)
    rw [if_neg (List.not_mem_nil : k ∉ [])]
    split <;> omega
theorem wait_le {P : List Nat} {m : Nat} {T : Nat → Nat → Prop} {s : OU} (hO : OuI P m T s) {D W H : List Nat} {p j : Nat} (hp : p ∉ D) (hpm : p < m) (h : OrI s.users m W H (D ++ [p]) ((lAt s.users p).drop j)) (c : Nat) : gt W c ≤ gt s.waits c := by
  have h1 := h.wc c
  have h2 := rest_in (U := s.users) (c := c) hp m hpm
  have h3 := rest_mono s.users D c m
  have h4 : ((lAt s.users p).drop j).count c ≤ (lAt s.users p).count c := (List.drop_sublist j _).count_le c
  have h5 := rest_flat s.users c m (by rw [hO.lu]; exact Nat.le_refl _)
  rw [List.take_of_length_le (by rw [hO.lu]; exact Nat.le_refl _), ← hO.cnt] at h5
  omega
theorem drain_nil {U : List (List Nat)} {s : OW} (h : s.heap = []) : ∀ f, drainS U f s = s
  | 0 => rfl
  | f + 1 => by unfold drainS; rw [if_pos h]
theorem drain_pop {U : List (List Nat)} {s : OW} (h : s.heap ≠ []) (f : Nat) : drainS U (f + 1) s = drainS U f (popS U s) := by
  conv => lhs; unfold drainS
  rw [if_neg h]
end Go.Proofs.YtigmdiagdlbdpaaGreat
