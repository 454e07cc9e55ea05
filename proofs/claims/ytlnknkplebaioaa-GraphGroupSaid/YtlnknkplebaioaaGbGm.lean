/-
  PLAIN. Without uses there are as many groups as different keys.
-/
import Derived.Test.YtlnknkplebaioaaGbGl
import Derived.Test.YtlnknkplebaioaaGbZ
namespace Go.Proofs.Ytlnknkplebaioaa
open Go.RowKit Go.Maps
theorem parts_full {G C : List (List Nat)} (h : Parts G C) (hz : ∀ x y, Re G x y → x = y) : C.length = G.length := by
  have h1 : ∀ x, ∃ i, x < G.length → i < C.length ∧ x ∈ lAt C i := fun x => by
    by_cases hx : x < G.length
    · obtain ⟨i, hi, hm⟩ := h.all x hx
      exact ⟨i, fun _ => ⟨hi, hm⟩⟩
    · exact ⟨0, fun hc => absurd hc hx⟩
  obtain ⟨f, hf⟩ := Classical.axiomOfChoice h1
  have hd : ((List.range G.length).map f).Nodup := by
    show List.Pairwise _ _
    rw [List.pairwise_iff_getElem]
    intro i j hi hj hij e
    rw [List.length_map, List.length_range] at hi hj
    rw [List.getElem_map, List.getElem_map, List.getElem_range, List.getElem_range] at e
    obtain ⟨a1, a2⟩ := hf i hi
    obtain ⟨b1, b2⟩ := hf j hj
    rw [← e] at b2
    have h2 := ((h.tog (f i) i j a1 a2 hj).1 b2).1
    have := hz _ _ h2
    omega
  have h3 := nodup_lt C.length _ hd (fun x hx => by
    obtain ⟨y, hy, rfl⟩ := List.mem_map.1 hx
    exact (hf y (List.mem_range.1 hy)).1)
  rw [List.length_map, List.length_range] at h3
  have h4 := parts_len h
  omega
theorem gK_parts (m : List Ky) (k : Nat) : Parts (gK m k) (compsG (gK m k)) := comps_parts (fun u j x hx => by
  have hu := nx_lt hx
  have h1 : x ∈ (gK m k).getD u [] := List.mem_of_getElem? hx
  exact gK_lt m k _ (by rw [List.getD_eq_getElem?_getD, List.getElem?_eq_getElem hu]; exact List.getElem_mem hu) x h1)
theorem groupN_len (m : List Ky) : (groupN m).length = m.length := by
  unfold groupN grpL
  rw [List.length_map, parts_full (gK_parts m 0), gK_len]
  intro x y h
  induction h with
  | refl => rfl
  | step h1 e ih =>
    exfalso
    have h3 : ∀ a, (gK m 0).getD a [] = [] := fun a => by
      rw [gK_zero, List.getD_eq_getElem?_getD, List.getElem?_replicate]
      split <;> rfl
    unfold nx at e
    rw [h3] at e
    cases e
/-- A reach of the groups' lengths. -/
theorem compsK_len (m : List Ky) (k : Nat) : (compsG (gK m k)).length ≤ m.length := by
  have := parts_len (gK_parts m k)
  rwa [gK_len] at this
theorem compsK_row (m : List Ky) (k i : Nat) : (lAt (compsG (gK m k)) i).length ≤ m.length := by
  have := parts_row (gK_parts m k) i
  rwa [gK_len] at this
end Go.Proofs.Ytlnknkplebaioaa
