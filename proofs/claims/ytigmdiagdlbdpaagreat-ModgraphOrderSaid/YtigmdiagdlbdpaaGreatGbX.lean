/-
  WALKS. Lists of numbers compared; a number looked for in a list (the laws' has, the reference's has, slices.Index, slices.Contains).
-/
import Derived.Test.YtigmdiagdlbdpaaGreatGbA
namespace Go.Proofs.YtigmdiagdlbdpaaGreat
open Go.RowKit Go.Maps
theorem gt_ext {l l' : List Nat} (hl : l.length = l'.length) (h : ∀ i, i < l.length → gt l i = gt l' i) : l = l' := by
  apply List.ext_getElem hl
  intro i h1 h2
  rw [← gt_at h1, ← gt_at h2]
  exact h i h1
theorem beq_false {l l' : List Nat} (h : l ≠ l') : (l == l') = false := by simp [h]
abbrev lat (L : List (List Nat)) (i : Nat) : List Nat := L.getD i []
theorem Edg.at {w : World} {oa : Option Addr} {n : Nat} {G : List (List Nat)} (h : Edg w oa n G) {k : Nat} (hk : k < G.length) : ∃ b o ra rn rc, oa = some ⟨b, o, none⟩ ∧ w.cell? ⟨b, o + k, none⟩ = some (.slice ra rn rc) ∧ Ints w ra rn (lat G k) := by
  have e : lat G k = G[k] := by show G.getD k [] = _; rw [List.getD_eq_getElem?_getD, List.getElem?_eq_getElem hk]; rfl
  rw [e]
  exact h.cell k hk
def noK (l : List Nat) (x k : Nat) : Prop := ∀ i, i < k → gt l i ≠ x
theorem noK_step {l : List Nat} {x k : Nat} (h : noK l x k) (hk : gt l k ≠ x) : noK l x (k + 1) := fun i hi => by
  by_cases e : i = k
  · rw [e]; exact hk
  · exact h i (by omega)
theorem noK_all {l : List Nat} {x : Nat} (h : noK l x l.length) : decide (x ∈ l) = false := by
  apply decide_eq_false
  intro hx
  obtain ⟨i, hi, e⟩ := List.getElem_of_mem hx
  exact h i hi (by rw [gt_at hi, e])
theorem yesK {l : List Nat} {x k : Nat} (hk : k < l.length) (h : gt l k = x) : decide (x ∈ l) = true := by
  apply decide_eq_true
  rw [← h, gt_at hk]
  exact List.getElem_mem hk
section
variable (w : World) (oa : Option Addr) (n ca : Nat) (l : List Nat)
set_option maxRecDepth 100000 in
set_option maxHeartbeats 8000000 in
theorem Index_p (h : Ints w oa n l) (hn : n ≤ 1000000000) (x : Nat) : Calls Tryz.prog 69 #[.slice oa n ca, iV x] w fun e w' => (∃ j : Int, e = .returned (.int .i64 j) ∧ decide (0 ≤ j) = decide (x ∈ l) ∧ (j < 0 → j = -1)) ∧ Only (fun _ => False) w w' := by
  have hl := h.len
  go_enter Tryz.func69, Tryz.ntmps69
  go_wp2
  go_loopw [8] (fun q wr => ∃ k : Nat, k ≤ n ∧ q = .int .i64 k ∧ Hid (noK l x k) ∧ Only (fun _ => False) w wr) (fun q _ => n - (intOf q).toNat)
  case atStart => exact ⟨0, by omega, rfl, Lib.hid (fun i hi => absurd hi (Nat.not_lt_zero _)), Only.refl _ _⟩
  case round =>
    obtain ⟨k, hk, rfl, HK, hO⟩ := hrel
    by_cases hlt : k < n
    · obtain ⟨b1, o1, e1, c1⟩ := (h.old hO (fun _ _ hc => hc)).cell k (by omega)
      subst e1
      have h01 : (0 : Int) ≤ (k : Int) := Int.natCast_nonneg k
      have h02 : (k : Int) < (n : Int) := by omega
      have h03 : (k : Int).toNat = k := Int.toNat_natCast k
      obtain ⟨y, hy⟩ : ∃ y, gt l k = y := ⟨_, rfl⟩
      rw [hy] at c1
      have HY := Lib.hid hy
      clear hy
      by_cases e : y = x
      · subst e
        have HT := Lib.hid (yesK (l := l) (x := y) (k := k) (by omega) HY.out)
        go_wp2
        go_ret
        exact ⟨⟨(k : Int), rfl, by rw [HT.out]; exact decide_eq_true h01, fun hc => by omega⟩, hO⟩
      · have e1 : ((x : Int) == (y : Int)) = false := by simp; omega
        have e2 : ¬ (x : Int) = (y : Int) := by omega
        have HN := Lib.hid (noK_step HK.out (by rw [HY.out]; exact e))
        go_wp2
        go_roundw
        case rel => exact ⟨k + 1, by omega, by go_num, HN, hO⟩
        case measure => simp [intOf]; omega
    · have HF := Lib.hid (by have := HK.out; rw [show k = l.length by omega] at this; exact noK_all this : decide (x ∈ l) = false)
      go_wp2
      go_ret
      exact ⟨⟨-1, rfl, by rw [HF.out]; rfl, fun _ => rfl⟩, hO⟩
set_option maxRecDepth 100000 in
set_option maxHeartbeats 8000000 in
theorem Contains_p (h : Ints w oa n l) (hn : n ≤ 1000000000) (x : Nat) (r : Bool) (hr : decide (x ∈ l) = r) : Calls Tryz.prog 48 #[.slice oa n ca, iV x] w fun e w' => e = .returned (.bool r) ∧ Only (fun _ => False) w w' := by
  have HR := Lib.hid hr
  clear hr
  go_enter Tryz.func48, Tryz.ntmps48
  go_wp2_with (go_at_call 69; (refine (Index_p w oa n ca l h hn x).mono ?_); rintro e w5 ⟨⟨j, rfl, hj, -⟩, hO5⟩; have HJ := Lib.hid (hj.trans HR.out); clear hj)
  go_ret
  exact ⟨by rw [HJ.out]; rfl, hO5⟩
end
end Go.Proofs.YtigmdiagdlbdpaaGreat
