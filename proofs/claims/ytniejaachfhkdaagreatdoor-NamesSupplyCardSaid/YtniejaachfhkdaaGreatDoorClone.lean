/-
  WALKS. Clone of a supply: a new supply with the same used names.
-/
import Derived.Test.YtniejaachfhkdaaGreatDoorMapsCl
import Derived.Test.YtniejaachfhkdaaGreatDoorNewS
import Derived.Deep.RegionWith
namespace Go.Proofs.YtniejaachfhkdaaGreatDoor
open Go.RowKit Go.Maps
def UsedAt (w : World) (b : Nat) (U : List (List UInt8)) (N : Nat) : Prop := ∃ D : DataW Unit, w.ownsMap Tryz.prog 9 (plainElem Tryz.prog 4) b N D ∧ ∀ s, D.atKey (.string s) (.lit (.bool false)) = .lit (.bool (U.contains s))
def TriedAt (w : World) (b : Nat) (T : List UInt8 → Nat) (N : Nat) : Prop := ∃ D : DataW Unit, w.ownsMap Tryz.prog 9 (plainElem Tryz.prog 3) b N D ∧ ∀ s, D.atKey (.string s) (.lit (.int .i64 0)) = .lit (.int .i64 (T s))
theorem UsedAt.same {w w' : World} {b U N} (h : UsedAt w b U N) (hb : w'.heap[b]? = w.heap[b]?) : UsedAt w' b U N := by
  obtain ⟨D, h, hD⟩ := h
  exact ⟨D, ownsMap_same h hb, hD⟩
theorem TriedAt.same {w w' : World} {b T N} (h : TriedAt w b T N) (hb : w'.heap[b]? = w.heap[b]?) : TriedAt w' b T N := by
  obtain ⟨D, h, hD⟩ := h
  exact ⟨D, ownsMap_same h hb, hD⟩
theorem Clone_b (W w : World) (p : Pl) (U T N) (hS : Sup W p U T N w) :
    Calls Tryz.prog 48 #[.map (some p.u)] w fun e w' => e = .returned (.map (some w.heap.size)) ∧ UsedAt w' w.heap.size U N ∧ Below w.heap.size w w' ∧ w'.heap.size = w.heap.size + 1 := by
  obtain ⟨D, hown, hD⟩ := hS.ou
  obtain ⟨es, clock, hb, F, hs, hx⟩ := hown
  refine (mapsClone_b p.u es clock w hb).mono fun e w' ⟨he, hw⟩ => ?_
  subst hw
  exact ⟨he, ⟨D, ⟨es, clock, (MapKept.heap_alloc w _).1, F, hs, hx⟩, hD⟩, (Below.refl _ w).alloc (Nat.le_refl _) _, by show (w.heap.push _).size = _; simp⟩
theorem Clone_i (W w : World) (p : Pl) (U T N) (hS : Sup W p U T N w) :
    Calls Tryz.prog 49 #[.map (some p.t)] w fun e w' => e = .returned (.map (some w.heap.size)) ∧ TriedAt w' w.heap.size T N ∧ Below w.heap.size w w' ∧ w'.heap.size = w.heap.size + 1 := by
  obtain ⟨D, hown, hD⟩ := hS.ot
  obtain ⟨es, clock, hb, F, hs, hx⟩ := hown
  refine (mapsClone_i p.t es clock w hb).mono fun e w' ⟨he, hw⟩ => ?_
  subst hw
  exact ⟨he, ⟨D, ⟨es, clock, (MapKept.heap_alloc w _).1, F, hs, hx⟩, hD⟩, (Below.refl _ w).alloc (Nat.le_refl _) _, by show (w.heap.push _).size = _; simp⟩
theorem Sup.cloned {W wi : World} {p : Pl} {U T N} {B : Nat} (hS : Sup W p U T N wi) (hz : wi.heap.size = B + 1 + 1) (hW : W.heap.size ≤ B) (hu : UsedAt wi B U N) (ht : TriedAt wi (B + 1) T N) :
    Sup W ⟨B + 1 + 1, B, B + 1⟩ U T N (wi.alloc (.cells #[.pointer (some ⟨B + 1 + 1, 0, none⟩), .map (some B), .map (some (B + 1))] 67)) := by
  have hu' : UsedAt (wi.alloc (.cells #[.pointer (some ⟨B + 1 + 1, 0, none⟩), .map (some B), .map (some (B + 1))] 67)) B U N := hu.same (Below.heap_alloc _ _ _ (by omega))
  have ht' : TriedAt (wi.alloc (.cells #[.pointer (some ⟨B + 1 + 1, 0, none⟩), .map (some B), .map (some (B + 1))] 67)) (B + 1) T N := ht.same (Below.heap_alloc _ _ _ (by omega))
  refine { q := hS.q.below ((Below.refl _ _).alloc (Nat.le_refl _) _), la := by simp only []; omega, lu := hW, lt := by simp only []; omega, au := by simp only []; omega, at' := by simp only []; omega, ut := by simp only []; omega, blk := ?_, nN := hS.nN, tN := hS.tN, ou := hu', ot := ht' }
  have := heap_new wi (.cells #[.pointer (some ⟨B + 1 + 1, 0, none⟩), .map (some B), .map (some (B + 1))] 67)
  rw [hz] at this
  exact this
set_option maxRecDepth 100000 in
set_option maxHeartbeats 1000000 in
theorem Clone_q (W w : World) (p : Pl) (U T N) (hS : Sup W p U T N w) :
    Calls Tryz.prog 21 #[.pointer (some ⟨p.a, 0, none⟩)] w fun e w' => ∃ p2 : Pl, e = .returned (.pointer (some ⟨p2.a, 0, none⟩)) ∧ Sup W p2 U T N w' ∧ Below w.heap.size w w' ∧ w.heap.size ≤ p2.a ∧ w.heap.size ≤ p2.u ∧ w.heap.size ≤ p2.t := by
  have hc0 := hS.cell0
  have hSd : Sup W p U T N w.drew := hS.below (Below.refl _ _).drew
  have hc1 := hSd.cell1
  have hc2 := hSd.cell2
  go_enter Tryz.func21, Tryz.ntmps21
  go_wp2_with (first | (go_at_call 47; refine (valid_yes _ _ hc0).mono ?_; rintro e w1 ⟨rfl, rfl⟩))
  go_region_with (first
    | (go_at_call 48; first
        | ((with_reducible refine (Clone_b _ _ _ _ _ _ hSd).mono ?_); rintro e w1 ⟨rfl, hu1, hb1, hz1⟩; have hS1 := hSd.below hb1; have hd1 := hS1.cell1; have hd2 := hS1.cell2)
        | ((with_reducible refine (Clone_b _ _ _ _ _ _ hSi).mono ?_); rintro e w1 ⟨rfl, hu1, hb1, hz1⟩; have hS1 := hSi.below hb1; have hd1 := hS1.cell1; have hd2 := hS1.cell2))
    | (go_at_call 49; first
        | ((with_reducible refine (Clone_i _ _ _ _ _ _ hSd).mono ?_); rintro e wi ⟨rfl, hti, hbi, hzi⟩; have hSi := hSd.below hbi; have he1 := hSi.cell1; have he2 := hSi.cell2)
        | ((with_reducible refine (Clone_i _ _ _ _ _ _ hS1).mono ?_); rintro e wi ⟨rfl, hti, hbi, hzi⟩; have hSi := hS1.below hbi; have he1 := hSi.cell1; have he2 := hSi.cell2)))
  all_goals
    have hz : wi.heap.size = w.heap.size + 1 + 1 := by rw [hzi, hz1]; rfl
    rw [← hz]
    go_wp2
    go_ret
    exact ⟨⟨w.heap.size + 1 + 1, w.heap.size, w.heap.size + 1⟩, rfl, Sup.cloned hSi hz hS.q.bel.size (hu1.same (hbi.block _ (by rw [hz1]; exact Nat.lt_succ_self _))) (by rw [hz1] at hti; exact hti),
      (((Below.refl _ w).drew.trans hb1).trans (hbi.mono (by rw [hz1]; exact Nat.le_succ _))).alloc (by rw [hz]; omega) _, by show _ ≤ w.heap.size + 1 + 1; omega, Nat.le_refl _, by show _ ≤ w.heap.size + 1; omega⟩
end Go.Proofs.YtniejaachfhkdaaGreatDoor
