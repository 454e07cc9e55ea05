/-
  The laws' own lists: what is reached, what lies together; the bounds of a small graph.
-/
import Derived.Test.YtijohaeiiidcpaaGbEx
import Derived.Test.YtijohaeiiidcpaaGbW
import Derived.Test.YtijohaeiiidcpaaGbV
namespace Go.Proofs.Ytijohaeiiidcpaa
open Go.RowKit Go.Maps
theorem edgeN_row {E : List (List Int)} : ∀ (k i : Nat), i < k → (E.getD i []).length ≤ edgeN E k
  | 0, i, h => absurd h (Nat.not_lt_zero _)
  | k + 1, i, h => by
    show _ ≤ edgeN E k + (E.getD k []).length
    by_cases e : i = k
    · subst e; omega
    · have := edgeN_row (E := E) k i (by omega); omega
theorem small_bound {E : List (List Int)} (h : smallE E = true) : E.length ≤ 60 ∧ ∀ l ∈ E, l.length ≤ 2000 := by
  unfold smallE at h
  simp only [Bool.and_eq_true, decide_eq_true_eq] at h
  obtain ⟨h1, h2⟩ := h
  refine ⟨h1, fun l hl => ?_⟩
  obtain ⟨i, hi, e⟩ := List.getElem_of_mem hl
  have h3 := edgeN_row (E := E) (min E.length 61) i (by omega)
  rw [List.getD_eq_getElem?_getD, List.getElem?_eq_getElem hi] at h3
  change E[i].length ≤ _ at h3
  rw [e] at h3
  omega
section
variable {E : List (List Int)} {G : List (List Nat)} {u v : Nat}
theorem mem_reach (hv : validE E = true) (hG : natE E = G) (hu : u < E.length) (x : Nat) : x ∈ reachL E (u : Int) ↔ x < E.length ∧ Re G u x := by
  have hGl : G.length = E.length := by rw [← hG]; exact natE_len E
  have hG2 : ValidG G := by rw [← hG]; exact valid_G hv
  have hN := nums_ok hG2 [u] (fun v h => by rw [List.mem_singleton.1 h, hGl]; exact hu)
  have hok : okN E.length (u : Int) = true := by unfold okN; simp; omega
  unfold reachL
  rw [hv, hok, Int.toNat_natCast, hG]
  simp only [Bool.and_self, if_true]
  unfold reachTo
  rw [List.mem_filter, List.mem_range]
  have h1 := hN.reach x
  constructor
  · rintro ⟨h2, h3⟩
    have h4 : gt (numbersS G [u]) x ≠ 0 := by simpa using h3
    obtain ⟨y, hy, hr⟩ := h1.1 h4
    rw [List.mem_singleton.1 hy] at hr
    exact ⟨h2, hr⟩
  · rintro ⟨h2, h3⟩
    refine ⟨h2, ?_⟩
    have h4 := h1.2 ⟨u, List.mem_singleton.2 rfl, h3⟩
    simpa using h4
theorem reach_next (hv : validE E = true) (hG : natE E = G) (hu : u < E.length) {x j y : Nat} (hx : x ∈ reachL E (u : Int)) (h : nx G x j = some y) : y ∈ reachL E (u : Int) := by
  have hG2 : ValidG G := by rw [← hG]; exact valid_G hv
  have hGl : G.length = E.length := by rw [← hG]; exact natE_len E
  rw [mem_reach hv hG hu] at hx ⊢
  exact ⟨by rw [← hGl]; exact hG2 x j y h, hx.2.step h⟩
theorem reach_self (hv : validE E = true) (hu : u < E.length) : u ∈ reachL E (u : Int) := (mem_reach hv rfl hu u).2 ⟨hu, Re.refl u⟩
theorem reach_len (E : List (List Int)) (i : Int) : (reachL E i).length ≤ E.length := by
  unfold reachL
  split
  · exact reachTo_len _ _
  · exact Nat.zero_le _
/-- Among the first so many components one holds both. -/
def togK (C : List (List Nat)) (u v k : Nat) : Bool := (C.take k).any (fun c => decide (u ∈ c) && decide (v ∈ c))
theorem togK_succ {C : List (List Nat)} {k : Nat} (hk : k < C.length) : togK C u v (k + 1) = (togK C u v k || (decide (u ∈ lAt C k) && decide (v ∈ lAt C k))) := by
  unfold togK
  rw [List.take_succ_eq_append_getElem hk, List.any_append]
  have e : lAt C k = C[k] := by show C.getD k [] = _; rw [List.getD_eq_getElem?_getD, List.getElem?_eq_getElem hk]; rfl
  rw [e]
  simp
theorem togK_all (hv : validE E = true) (hG : natE E = G) (hu : u < E.length) (hw : v < E.length) : togK (compsG G) u v (compsG G).length = (decide (v ∈ reachL E (u : Int)) && decide (u ∈ reachL E (v : Int))) := by
  have hG2 : ValidG G := by rw [← hG]; exact valid_G hv
  have hGl : G.length = E.length := by rw [← hG]; exact natE_len E
  have hP := comps_parts hG2
  obtain ⟨C, hC⟩ : ∃ C, compsG G = C := ⟨_, rfl⟩
  rw [hC] at hP ⊢
  rw [Bool.eq_iff_iff]
  simp only [Bool.and_eq_true, decide_eq_true_eq]
  rw [mem_reach hv hG hu, mem_reach hv hG hw]
  unfold togK
  rw [List.take_of_length_le (Nat.le_refl _), List.any_eq_true]
  constructor
  · rintro ⟨c, hc, h⟩
    simp only [Bool.and_eq_true, decide_eq_true_eq] at h
    obtain ⟨i, hi, e⟩ := List.getElem_of_mem hc
    have e2 : lAt C i = c := by rw [← e]; show C.getD i [] = _; rw [List.getD_eq_getElem?_getD, List.getElem?_eq_getElem hi]; rfl
    rw [← e2] at h
    have := (hP.tog i u v hi h.1 (by omega)).1 h.2
    exact ⟨⟨hw, this.1⟩, hu, this.2⟩
  · rintro ⟨⟨-, h1⟩, -, h2⟩
    obtain ⟨i, hi, h3⟩ := hP.all u (by omega)
    have h4 := (hP.tog i u v hi h3 (by omega)).2 ⟨h1, h2⟩
    have e2 : lAt C i = C[i] := by show C.getD i [] = _; rw [List.getD_eq_getElem?_getD, List.getElem?_eq_getElem hi]; rfl
    rw [e2] at h3 h4
    exact ⟨C[i], List.getElem_mem hi, by rw [decide_eq_true h3, decide_eq_true h4]; rfl⟩
end
end Go.Proofs.Ytijohaeiiidcpaa
