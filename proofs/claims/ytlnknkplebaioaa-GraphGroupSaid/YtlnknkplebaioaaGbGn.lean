/-
  WALKS. GraphGroup: too many items, or one that is out of its bounds.
-/
import Derived.Test.YtlnknkplebaioaaGbGa
import Derived.Test.YtlnknkplebaioaaGbEx
namespace Go.Proofs.Ytlnknkplebaioaa
open Go.RowKit Go.Maps
theorem okKy_of {l : List Ky} {n : Nat} (hl : l.length = n) (h : ∀ j, j < n → okKy (kAt l j)) : ∀ x ∈ l, okKy x := fun x hx => by
  obtain ⟨i, hi, e⟩ := List.getElem_of_mem hx
  have := h i (by omega)
  rw [kAt_get hi, e] at this
  exact this
/-- The first that is out of its bounds. -/
theorem first_bad {l : List Ky} : ∀ {n : Nat}, ¬ (∀ j, j < n → okKy (kAt l j)) → ∃ b, b < n ∧ ¬ okKy (kAt l b) ∧ ∀ j, j < b → okKy (kAt l j)
  | 0, h => absurd (fun j hj => absurd hj (Nat.not_lt_zero _)) h
  | n + 1, h => by
    by_cases h1 : ∀ j, j < n → okKy (kAt l j)
    · refine ⟨n, Nat.lt_succ_self n, fun h2 => h fun j hj => ?_, h1⟩
      by_cases e : j = n
      · rw [e]; exact h2
      · exact h1 j (by omega)
    · obtain ⟨b, hb, h2, h3⟩ := first_bad h1
      exact ⟨b, by omega, h2, h3⟩
set_option maxRecDepth 100000 in
set_option maxHeartbeats 8000000 in
theorem Group_many (w : World) (oK : Option Addr) (n cK : Nat) (l : List Ky) (_h : Kys w oK n l) (hn : 60 < n) : Calls Try.prog 6 #[.slice oK n cK] w fun e w' => e = .returned (.bool true) ∧ Only (fun _ => False) w w' := by
  have hn1 : (60 : Int) < (n : Int) := by omega
  have hn2 : decide ((60 : Int) < (n : Int)) = true := decide_eq_true hn1
  go_enter Try.func6, Try.ntmps6
  go_wp2_with (go_at_call 10; (refine (example_p _).mono ?_); rintro e w6 ⟨rfl, hO6⟩)
  go_ret
  exact ⟨rfl, hO6⟩
set_option maxRecDepth 100000 in
set_option maxHeartbeats 8000000 in
theorem Group_bad (w : World) (oK : Option Addr) (n cK : Nat) (l : List Ky) (h : Kys w oK n l) (hn : n ≤ 60) (b : Nat) (hb : b < n) (hbad : ¬ okKy (kAt l b)) (hgood : ∀ j, j < b → okKy (kAt l j)) : Calls Try.prog 6 #[.slice oK n cK] w fun e w' => e = .returned (.bool true) ∧ Only (fun _ => False) w w' := by
  have hl := h.len
  have hn1 : ¬ (60 : Int) < (n : Int) := by omega
  have hn2 : decide ((60 : Int) < (n : Int)) = false := decide_eq_false hn1
  have HBAD := Lib.hid hbad
  have HGOOD := Lib.hid hgood
  clear hbad hgood
  go_enter Try.func6, Try.ntmps6
  go_wp2
  go_loopw [3] (fun q wr => ∃ k : Nat, k ≤ b ∧ q = .int .i64 k ∧ Only (fun _ => False) w wr) (fun q _ => n - (intOf q).toNat)
  case atStart => exact ⟨0, by omega, rfl, Only.refl _ _⟩
  case round =>
    obtain ⟨k, hk, rfl, hO⟩ := hrel
    have hkn : k < n := by omega
    have hkl : k < l.length := by omega
    obtain ⟨b1, o1, e1, c1⟩ := (h.old hO (fun _ _ hc => hc)).cell k hkl
    subst e1
    obtain ⟨⟨y1, y2⟩, hy⟩ : ∃ y, l[k] = y := ⟨_, rfl⟩
    have hky : kAt l k = (y1, y2) := (kAt_get hkl).trans hy
    rw [hy] at c1
    obtain ⟨p0, p1⟩ := c1
    have h01 : (0 : Int) ≤ (k : Int) := Int.natCast_nonneg k
    have h02 : (k : Int) < (n : Int) := by omega
    have h03 : (k : Int).toNat = k := Int.toNat_natCast k
    dsimp only at p0 p1
    have HKY := Lib.hid hky
    clear hy hky
    by_cases hlt : k < b
    · obtain ⟨g1, g2, g3, g4⟩ := HGOOD.out k hlt
      rw [HKY.out] at g1 g2 g3 g4
      dsimp only at g1 g2 g3 g4
      have d1 : decide (y1 < 0) = false := decide_eq_false (by omega)
      have d2 : decide ((7 : Int) < y1) = false := decide_eq_false (by omega)
      have d3 : decide (y2 < 0) = false := decide_eq_false (by omega)
      have d4 : decide ((2147483648 : Int) < y2) = false := decide_eq_false (by omega)
      have e1 : ¬ y1 < 0 := by omega
      have e2 : ¬ (7 : Int) < y1 := by omega
      have e3 : ¬ y2 < 0 := by omega
      have e4 : ¬ (2147483648 : Int) < y2 := by omega
      clear g1 g2 g3 g4
      go_wp2
      go_roundw
      case rel => exact ⟨k + 1, by omega, by go_num, hO⟩
      case measure => simp [intOf]; omega
    · have hkb : k = b := by omega
      subst hkb
      have HN := Lib.hid (show ¬ okKy (y1, y2) by rw [← HKY.out]; exact HBAD.out)
      by_cases q1 : y1 < 0
      · have d1 : decide (y1 < 0) = true := decide_eq_true q1
        go_wp2_with (go_at_call 10; (refine (example_p _).mono ?_); rintro e w6 ⟨rfl, hO6⟩)
        go_ret
        exact ⟨rfl, hO.trans hO6⟩
      · have d1 : decide (y1 < 0) = false := decide_eq_false q1
        by_cases q2 : (7 : Int) < y1
        · have d2 : decide ((7 : Int) < y1) = true := decide_eq_true q2
          go_wp2_with (go_at_call 10; (refine (example_p _).mono ?_); rintro e w6 ⟨rfl, hO6⟩)
          go_ret
          exact ⟨rfl, hO.trans hO6⟩
        · have d2 : decide ((7 : Int) < y1) = false := decide_eq_false q2
          by_cases q3 : y2 < 0
          · have d3 : decide (y2 < 0) = true := decide_eq_true q3
            go_wp2_with (go_at_call 10; (refine (example_p _).mono ?_); rintro e w6 ⟨rfl, hO6⟩)
            go_ret
            exact ⟨rfl, hO.trans hO6⟩
          · have d3 : decide (y2 < 0) = false := decide_eq_false q3
            have q4 : (2147483648 : Int) < y2 := by
              apply Classical.byContradiction
              intro q4
              exact HN.out ⟨by show (0 : Int) ≤ y1; omega, by show y1 ≤ 7; omega, by show (0 : Int) ≤ y2; omega, by show y2 ≤ 2147483648; omega⟩
            have d4 : decide ((2147483648 : Int) < y2) = true := decide_eq_true q4
            go_wp2_with (go_at_call 10; (refine (example_p _).mono ?_); rintro e w6 ⟨rfl, hO6⟩)
            go_ret
            exact ⟨rfl, hO.trans hO6⟩
end Go.Proofs.Ytlnknkplebaioaa
