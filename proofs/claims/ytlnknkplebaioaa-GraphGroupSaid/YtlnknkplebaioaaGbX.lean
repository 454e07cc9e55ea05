/-
  WALKS. Lists of numbers compared; a number looked for in a list (the laws' has, the reference's has, slices.Index, slices.Contains).
-/
import Derived.Test.YtlnknkplebaioaaGbA
namespace Go.Proofs.Ytlnknkplebaioaa
open Go.RowKit Go.Maps
theorem gt_ext {l l' : List Nat} (hl : l.length = l'.length) (h : ∀ i, i < l.length → gt l i = gt l' i) : l = l' := by
  apply List.ext_getElem hl
  intro i h1 h2
  rw [← gt_at h1, ← gt_at h2]
  exact h i h1
theorem beq_false {l l' : List Nat} (h : l ≠ l') : (l == l') = false := by simp [h]
set_option maxRecDepth 100000 in
set_option maxHeartbeats 8000000 in
theorem SameInts_p (w : World) (oa ob : Option Addr) (n m ca cb : Nat) (l l' : List Nat) (h : Ints w oa n l) (h' : Ints w ob m l') (hn : n ≤ 1000000000) (x : Bool) (hx : (l == l') = x) : Calls Try.prog 14 #[.slice oa n ca, .slice ob m cb] w fun e w' => e = .returned (.bool x) ∧ Only (fun _ => False) w w' := by
  have hl := h.len
  have hl' := h'.len
  have HX := Lib.hid hx
  clear hx
  by_cases hnm : n = m
  · subst hnm
    have HL := Lib.hid (show l.length = l'.length by omega)
    go_enter Try.func14, Try.ntmps14
    go_wp2
    go_loopw [5] (fun q wr => ∃ k : Nat, k ≤ n ∧ q = .int .i64 k ∧ Hid (∀ i, i < k → gt l i = gt l' i) ∧ Only (fun _ => False) w wr) (fun q _ => n - (intOf q).toNat)
    case atStart => exact ⟨0, by omega, rfl, Lib.hid (fun i hi => absurd hi (Nat.not_lt_zero _)), Only.refl _ _⟩
    case round =>
      obtain ⟨k, hk, rfl, HK, hO⟩ := hrel
      by_cases hlt : k < n
      · obtain ⟨b1, o1, e1, c1⟩ := (h.old hO (fun _ _ hc => hc)).cell k (by omega)
        obtain ⟨b2, o2, e2, c2⟩ := (h'.old hO (fun _ _ hc => hc)).cell k (by omega)
        subst e1
        subst e2
        have h01 : (0 : Int) ≤ (k : Int) := Int.natCast_nonneg k
        have h02 : (k : Int) < (n : Int) := by omega
        have h03 : (k : Int).toNat = k := Int.toNat_natCast k
        obtain ⟨y, hy⟩ : ∃ y, gt l k = y := ⟨_, rfl⟩
        obtain ⟨z, hz⟩ : ∃ z, gt l' k = z := ⟨_, rfl⟩
        rw [hy] at c1
        rw [hz] at c2
        have HY := Lib.hid hy
        have HZ := Lib.hid hz
        clear hy hz
        by_cases e : y = z
        · subst e
          have HN := Lib.hid (show ∀ i, i < k + 1 → gt l i = gt l' i from fun i hi => by
            by_cases e : i = k
            · rw [e, HY.out, HZ.out]
            · exact HK.out i (by omega))
          go_wp2
          go_region
          go_wp2
          go_roundw
          case rel => exact ⟨k + 1, by omega, by go_num, HN, hO.drew⟩
          case measure => simp [intOf]; omega
        · have e1 : ((y : Int) != (z : Int)) = true := by simp; omega
          have e2 : ¬ (y : Int) = (z : Int) := by omega
          have HF : Hid (x = false) := Lib.hid (by rw [← HX.out]; exact beq_false (fun hc => e (by rw [← HY.out, ← HZ.out, hc])))
          go_wp2
          go_region
          go_wp2
          go_ret
          rw [HF.out]
          exact ⟨rfl, hO.drew⟩
      · have HT : Hid (x = true) := Lib.hid (by
          rw [← HX.out, gt_ext HL.out (fun i hi => HK.out i (by omega))]
          simp)
        go_wp2
        go_ret
        rw [HT.out]
        exact ⟨rfl, hO⟩
  · have e1 : ((n : Int) != (m : Int)) = true := by simp; omega
    have e2 : ¬ (n : Int) = (m : Int) := by omega
    have HF : Hid (x = false) := Lib.hid (by rw [← HX.out]; exact beq_false (fun hc => hnm (by rw [← hl, ← hl', hc])))
    go_enter Try.func14, Try.ntmps14
    go_wp2
    go_ret
    rw [HF.out]
    exact ⟨rfl, Only.refl _ _⟩
abbrev lat (L : List (List Nat)) (i : Nat) : List Nat := L.getD i []
theorem Edg.at {w : World} {oa : Option Addr} {n : Nat} {G : List (List Nat)} (h : Edg w oa n G) {k : Nat} (hk : k < G.length) : ∃ b o ra rn rc, oa = some ⟨b, o, none⟩ ∧ w.cell? ⟨b, o + k, none⟩ = some (.slice ra rn rc) ∧ Ints w ra rn (lat G k) := by
  have e : lat G k = G[k] := by show G.getD k [] = _; rw [List.getD_eq_getElem?_getD, List.getElem?_eq_getElem hk]; rfl
  rw [e]
  exact h.cell k hk
set_option maxRecDepth 100000 in
set_option maxHeartbeats 8000000 in
theorem Same_p (w : World) (oa ob : Option Addr) (n m ca cb : Nat) (L L' : List (List Nat)) (h : Edg w oa n L) (h' : Edg w ob m L') (hn : n ≤ 1000000000) (hr : ∀ k, (lat L k).length ≤ 1000000000) (x : Bool) (hx : (L == L') = x) : Calls Try.prog 11 #[.slice oa n ca, .slice ob m cb] w fun e w' => e = .returned (.bool x) ∧ Only (fun _ => False) w w' := by
  have hl := h.len
  have hl' := h'.len
  have HX := Lib.hid hx
  clear hx
  by_cases hnm : n = m
  · subst hnm
    have HL := Lib.hid (show L.length = L'.length by omega)
    go_enter Try.func11, Try.ntmps11
    go_wp2
    go_loopw [5] (fun q wr => ∃ k : Nat, k ≤ n ∧ q = .int .i64 k ∧ Hid (∀ i, i < k → lat L i = lat L' i) ∧ Only (fun _ => False) w wr) (fun q _ => n - (intOf q).toNat)
    case atStart => exact ⟨0, by omega, rfl, Lib.hid (fun i hi => absurd hi (Nat.not_lt_zero _)), Only.refl _ _⟩
    case round =>
      obtain ⟨k, hk, rfl, HK, hO⟩ := hrel
      by_cases hlt : k < n
      · obtain ⟨b1, o1, ra, rn, rc, e1, c1, i1⟩ := (h.old hO (fun _ _ hc => hc)).at (k := k) (by omega)
        obtain ⟨b2, o2, sa, sn, sc, e2, c2, i2⟩ := (h'.old hO (fun _ _ hc => hc)).at (k := k) (by omega)
        subst e1
        subst e2
        have h01 : (0 : Int) ≤ (k : Int) := Int.natCast_nonneg k
        have h02 : (k : Int) < (n : Int) := by omega
        have h03 : (k : Int).toNat = k := Int.toNat_natCast k
        have hrn : rn ≤ 1000000000 := by rw [← i1.len]; exact hr k
        obtain ⟨y, hy⟩ : ∃ y, lat L k = y := ⟨_, rfl⟩
        obtain ⟨z, hz⟩ : ∃ z, lat L' k = z := ⟨_, rfl⟩
        rw [hy] at i1
        rw [hz] at i2
        have HY := Lib.hid hy
        have HZ := Lib.hid hz
        have I1 := Lib.hid i1
        have I2 := Lib.hid i2
        clear hy hz i1 i2
        by_cases e : y = z
        · have HS : Hid ((y == z) = true) := Lib.hid (by rw [e]; simp)
          have HN := Lib.hid (show ∀ i, i < k + 1 → lat L i = lat L' i from fun i hi => by
            by_cases e' : i = k
            · rw [e', HY.out, HZ.out, e]
            · exact HK.out i (by omega))
          clear e
          go_wp2
          go_region_with (go_at_call 14; (refine (SameInts_p _ ra sa rn sn rc sc y z (I1.out.old ((Only.refl _ _).drew) (fun _ _ hc => hc)) (I2.out.old ((Only.refl _ _).drew) (fun _ _ hc => hc)) hrn true HS.out).mono ?_); rintro e w5 ⟨rfl, hO5⟩)
          all_goals
            go_wp2
            go_roundw
            case rel => exact ⟨k + 1, by omega, by go_num, HN, hO.drew.trans hO5⟩
            case measure => simp [intOf]; omega
        · have HS : Hid ((y == z) = false) := Lib.hid (beq_false e)
          have HF : Hid (x = false) := Lib.hid (by
            rw [← HX.out]
            simp only [beq_eq_false_iff_ne]
            intro hc
            exact e (by rw [← HY.out, ← HZ.out, hc]))
          clear e
          go_wp2
          go_region_with (go_at_call 14; (refine (SameInts_p _ ra sa rn sn rc sc y z (I1.out.old ((Only.refl _ _).drew) (fun _ _ hc => hc)) (I2.out.old ((Only.refl _ _).drew) (fun _ _ hc => hc)) hrn false HS.out).mono ?_); rintro e w5 ⟨rfl, hO5⟩)
          all_goals
            go_wp2
            go_ret
            rw [HF.out]
            exact ⟨rfl, hO.drew.trans hO5⟩
      · have HT : Hid (x = true) := Lib.hid (by
          rw [← HX.out]
          have : L = L' := by
            apply List.ext_getElem HL.out
            intro i h1 h2
            have := HK.out i (by omega)
            unfold lat at this
            rw [List.getD_eq_getElem?_getD, List.getD_eq_getElem?_getD, List.getElem?_eq_getElem h1, List.getElem?_eq_getElem h2] at this
            exact this
          rw [this]
          simp)
        go_wp2
        go_ret
        rw [HT.out]
        exact ⟨rfl, hO⟩
  · have e1 : ((n : Int) != (m : Int)) = true := by simp; omega
    have e2 : ¬ (n : Int) = (m : Int) := by omega
    have HF : Hid (x = false) := Lib.hid (by
      rw [← HX.out]
      simp only [beq_eq_false_iff_ne]
      exact fun hc => hnm (by rw [← hl, ← hl', hc]))
    go_enter Try.func11, Try.ntmps11
    go_wp2
    go_ret
    rw [HF.out]
    exact ⟨rfl, Only.refl _ _⟩
/-- Not among the first k. -/
def noK (l : List Nat) (x k : Nat) : Prop := ∀ i, i < k → gt l i ≠ x
theorem noK_step {l : List Nat} {x k : Nat} (h : noK l x k) (hk : gt l k ≠ x) : noK l x (k + 1) := fun i hi => by
  by_cases e : i = k
  · rw [e]; exact hk
  · exact h i (by omega)
theorem noK_all {l : List Nat} {x : Nat} (h : noK l x l.length) : decide (x ∈ l) = false := by
  apply decide_eq_false
  intro hx
  obtain ⟨i, hi, e⟩ := List.getElem_of_mem hx
  exact h i hi (by rw [gt_at hi, e])
theorem yesK {l : List Nat} {x k : Nat} (hk : k < l.length) (h : gt l k = x) : decide (x ∈ l) = true := by
  apply decide_eq_true
  rw [← h, gt_at hk]
  exact List.getElem_mem hk
section
variable (w : World) (oa : Option Addr) (n ca : Nat) (l : List Nat)
set_option maxRecDepth 100000 in
set_option maxHeartbeats 8000000 in
theorem has_p (h : Ints w oa n l) (hn : n ≤ 1000000000) (x : Nat) (r : Bool) (hr : decide (x ∈ l) = r) : Calls Try.prog 26 #[.slice oa n ca, iV x] w fun e w' => e = .returned (.bool r) ∧ Only (fun _ => False) w w' := by
  have hl := h.len
  have HR := Lib.hid hr
  clear hr
  go_enter Try.func26, Try.ntmps26
  go_wp2
  go_loopw [5] (fun q wr => ∃ k : Nat, k ≤ n ∧ q = .int .i64 k ∧ Hid (noK l x k) ∧ Only (fun _ => False) w wr) (fun q _ => n - (intOf q).toNat)
  case atStart => exact ⟨0, by omega, rfl, Lib.hid (fun i hi => absurd hi (Nat.not_lt_zero _)), Only.refl _ _⟩
  case round =>
    obtain ⟨k, hk, rfl, HK, hO⟩ := hrel
    by_cases hlt : k < n
    · obtain ⟨b1, o1, e1, c1⟩ := (h.old hO (fun _ _ hc => hc)).cell k (by omega)
      subst e1
      have h01 : (0 : Int) ≤ (k : Int) := Int.natCast_nonneg k
      have h02 : (k : Int) < (n : Int) := by omega
      have h03 : (k : Int).toNat = k := Int.toNat_natCast k
      obtain ⟨y, hy⟩ : ∃ y, gt l k = y := ⟨_, rfl⟩
      rw [hy] at c1
      have HY := Lib.hid hy
      clear hy
      by_cases e : y = x
      · subst e
        have HT : Hid (r = true) := Lib.hid (by rw [← HR.out]; exact yesK (by omega) HY.out)
        go_wp2
        go_ret
        rw [HT.out]
        exact ⟨rfl, hO⟩
      · have e1 : ((y : Int) == (x : Int)) = false := by simp; omega
        have e2 : ¬ (y : Int) = (x : Int) := by omega
        have HN := Lib.hid (noK_step HK.out (by rw [HY.out]; exact e))
        go_wp2
        go_roundw
        case rel => exact ⟨k + 1, by omega, by go_num, HN, hO⟩
        case measure => simp [intOf]; omega
    · have HF : Hid (r = false) := Lib.hid (by rw [← HR.out]; have := HK.out; rw [show k = l.length by omega] at this; exact noK_all this)
      go_wp2
      go_ret
      rw [HF.out]
      exact ⟨rfl, hO⟩
set_option maxRecDepth 100000 in
set_option maxHeartbeats 8000000 in
theorem Index_p (h : Ints w oa n l) (hn : n ≤ 1000000000) (x : Nat) : Calls Try.prog 55 #[.slice oa n ca, iV x] w fun e w' => (∃ j : Int, e = .returned (.int .i64 j) ∧ decide (0 ≤ j) = decide (x ∈ l) ∧ (j < 0 → j = -1)) ∧ Only (fun _ => False) w w' := by
  have hl := h.len
  go_enter Try.func55, Try.ntmps55
  go_wp2
  go_loopw [8] (fun q wr => ∃ k : Nat, k ≤ n ∧ q = .int .i64 k ∧ Hid (noK l x k) ∧ Only (fun _ => False) w wr) (fun q _ => n - (intOf q).toNat)
  case atStart => exact ⟨0, by omega, rfl, Lib.hid (fun i hi => absurd hi (Nat.not_lt_zero _)), Only.refl _ _⟩
  case round =>
    obtain ⟨k, hk, rfl, HK, hO⟩ := hrel
    by_cases hlt : k < n
    · obtain ⟨b1, o1, e1, c1⟩ := (h.old hO (fun _ _ hc => hc)).cell k (by omega)
      subst e1
      have h01 : (0 : Int) ≤ (k : Int) := Int.natCast_nonneg k
      have h02 : (k : Int) < (n : Int) := by omega
      have h03 : (k : Int).toNat = k := Int.toNat_natCast k
      obtain ⟨y, hy⟩ : ∃ y, gt l k = y := ⟨_, rfl⟩
      rw [hy] at c1
      have HY := Lib.hid hy
      clear hy
      by_cases e : y = x
      · subst e
        have HT := Lib.hid (yesK (l := l) (x := y) (k := k) (by omega) HY.out)
        go_wp2
        go_ret
        exact ⟨⟨(k : Int), rfl, by rw [HT.out]; exact decide_eq_true h01, fun hc => by omega⟩, hO⟩
      · have e1 : ((x : Int) == (y : Int)) = false := by simp; omega
        have e2 : ¬ (x : Int) = (y : Int) := by omega
        have HN := Lib.hid (noK_step HK.out (by rw [HY.out]; exact e))
        go_wp2
        go_roundw
        case rel => exact ⟨k + 1, by omega, by go_num, HN, hO⟩
        case measure => simp [intOf]; omega
    · have HF := Lib.hid (by have := HK.out; rw [show k = l.length by omega] at this; exact noK_all this : decide (x ∈ l) = false)
      go_wp2
      go_ret
      exact ⟨⟨-1, rfl, by rw [HF.out]; rfl, fun _ => rfl⟩, hO⟩
set_option maxRecDepth 100000 in
set_option maxHeartbeats 8000000 in
theorem Contains_p (h : Ints w oa n l) (hn : n ≤ 1000000000) (x : Nat) (r : Bool) (hr : decide (x ∈ l) = r) : Calls Try.prog 38 #[.slice oa n ca, iV x] w fun e w' => e = .returned (.bool r) ∧ Only (fun _ => False) w w' := by
  have HR := Lib.hid hr
  clear hr
  go_enter Try.func38, Try.ntmps38
  go_wp2_with (go_at_call 55; (refine (Index_p w oa n ca l h hn x).mono ?_); rintro e w5 ⟨⟨j, rfl, hj, -⟩, hO5⟩; have HJ := Lib.hid (hj.trans HR.out); clear hj)
  go_ret
  exact ⟨by rw [HJ.out]; rfl, hO5⟩
end
end Go.Proofs.Ytlnknkplebaioaa
