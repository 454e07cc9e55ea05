/-
  WALKS. A graph of natural numbers as one of whole numbers.
-/
import Derived.Test.YtigmdiagdlbdpaaGreatGbU
namespace Go.Proofs.YtigmdiagdlbdpaaGreat
open Go.RowKit Go.Maps
def intE (G : List (List Nat)) : List (List Int) := G.map (fun l => l.map (fun (x : Nat) => (x : Int)))
theorem intE_len (G : List (List Nat)) : (intE G).length = G.length := List.length_map _
theorem natE_intE (G : List (List Nat)) : natE (intE G) = G := by
  unfold natE intE
  rw [List.map_map]
  have : (fun l : List Int => l.map Int.toNat) ∘ (fun l : List Nat => l.map (fun (x : Nat) => (x : Int))) = id := by
    funext l
    simp [List.map_map, Function.comp_def]
  rw [this, List.map_id]
theorem validE_intE {G : List (List Nat)} (h : ∀ l ∈ G, ∀ x ∈ l, x < G.length) : validE (intE G) = true := by
  unfold validE
  rw [List.all_eq_true]
  intro l hl
  obtain ⟨l', hl', rfl⟩ := List.mem_map.1 hl
  rw [List.all_eq_true]
  intro x hx
  obtain ⟨y, hy, rfl⟩ := List.mem_map.1 hx
  unfold okN
  rw [intE_len]
  have := h l' hl' y hy
  simp
  omega
theorem compsE_intE {G : List (List Nat)} (h : ∀ l ∈ G, ∀ x ∈ l, x < G.length) : compsE (intE G) = compsG G := by
  unfold compsE
  rw [validE_intE h, natE_intE]
  rfl
theorem Edg.edz {w : World} {oa : Option Addr} {n : Nat} {G : List (List Nat)} (h : Edg w oa n G) : Edz w oa n (intE G) := by
  refine ⟨(intE_len G).trans h.len, fun k hk => ?_⟩
  have hk' : k < G.length := by rw [← intE_len G]; exact hk
  obtain ⟨b, o, ra, rn, rc, e, hc, hi⟩ := h.cell k hk'
  have hg : (intE G)[k] = G[k].map (fun (x : Nat) => (x : Int)) := by simp [intE]
  refine ⟨b, o, ra, rn, rc, e, hc, ?_⟩
  rw [hg]
  refine ⟨by rw [List.length_map]; exact hi.len, fun j hj => ?_⟩
  have hj' : j < G[k].length := by rw [List.length_map] at hj; exact hj
  obtain ⟨b', o', e', hc'⟩ := hi.cell j hj'
  refine ⟨b', o', e', ?_⟩
  rw [hc', gt_at hj', List.getElem_map]
theorem RR.put {w : World} {B g n : Nat} {vs : List Value} {L : List (List Nat)} (h : RR w B (.slice (some ⟨g, 0, none⟩) n n) vs L) {p : Nat} (hp : p < L.length) {v' : Value} {l' : List Nat} (hrow : IR w B v' l') (hb : ∀ b, v'.ownBlock = some b → ∀ j, j < L.length → (vAt vs j).ownBlock ≠ some b) :
    RR (w.setCell ⟨g, p, none⟩ v') B (.slice (some ⟨g, 0, none⟩) n n) (vs.set p v') (L.set p l') := by
  have hvl := h.vl
  have hn : n = L.length := by
    obtain ⟨oa', ca', hv⟩ := rowForm h.out
    cases hv
    rfl
  subst hn
  have hO : Only (· = g) w (w.setCell ⟨g, p, none⟩ v') := Only.setCell (K := (· = g)) (Only.refl _ _) rfl _
  refine ⟨?_, fun i hi => ?_, fun i j hi hj hij b e => ?_⟩
  · have := row_set h.out (j := p) (by omega) v'
    rw [List.length_set]
    exact this
  · rw [List.length_set] at hi
    rw [vAt_set (by omega), lAt_set hp]
    split
    · exact hrow.only hO (fun b hb' e => rowApart hrow h.out (by decide) hb' (by rw [show b = g from e]; rfl))
    · exact (h.row i hi).only hO (fun b hb' e => rowApart (h.row i hi) h.out (by decide) hb' (by rw [show b = g from e]; rfl))
  · rw [List.length_set] at hi hj
    rw [vAt_set (by omega)] at e ⊢
    split at e
    · rw [if_neg (by omega)]
      exact hb b e j hj
    · split
      · intro e2
        exact hb b e2 i hi e
      · exact h.dis i j hi hj hij b e
end Go.Proofs.YtigmdiagdlbdpaaGreat
