/-
  PLAIN. Of Depth: the tokens between two braces are one deeper.
-/
import Derived.Test.YtkdogaomlocijaaIns10
namespace Go.Proofs.Ytkdogaomlocijaa
open Go.RowKit
theorem dep_shift (l : List Tok) : ∀ (m o : Int), List.foldl dep1 (m + 1, o + 1) l = ((List.foldl dep1 (m, o) l).1 + 1, (List.foldl dep1 (m, o) l).2 + 1) := by
  induction l with
  | nil => intro m o; rfl
  | cons t l ih =>
    intro m o
    rw [List.foldl_cons, List.foldl_cons]
    have : dep1 (m + 1, o + 1) t = ((dep1 (m, o) t).1 + 1, (dep1 (m, o) t).2 + 1) := by
      unfold dep1
      simp only
      split
      · rw [Prod.mk.injEq]; exact ⟨by omega, rfl⟩
      · split
        · rw [Prod.mk.injEq]; exact ⟨by omega, by omega⟩
        · rw [Prod.mk.injEq]; exact ⟨by omega, rfl⟩
    rw [this, ih]
theorem dep_le (l : List Tok) : ∀ (m o : Int), o ≤ m → (List.foldl dep1 (m, o) l).2 ≤ (List.foldl dep1 (m, o) l).1 := by
  induction l with
  | nil => intro m o h; exact h
  | cons t l ih =>
    intro m o _
    rw [List.foldl_cons]
    exact ih _ _ (Int.le_max_right _ _)
/-- Between two braces. -/
theorem dep_around (l : List Tok) (a b : Tok) (ha : spT a [123] = true) (hb : spT b [125] = true) : depL (a :: l ++ [b]) = depL l + 1 := by
  have hb' : spT b [123] = false := by
    unfold spT at hb ⊢
    have h1 := Bool.and_eq_true_iff.1 hb
    have h2 : b.text.data.toList = [125] := by have := h1.2; unfold tx at this; simpa using this
    unfold tx
    rw [h2]
    exact Bool.and_false _
  unfold depL
  rw [List.cons_append, List.foldl_cons, List.foldl_append]
  have h0 : dep1 (0, 0) a = ((0 : Int) + 1, (0 : Int) + 1) := by unfold dep1; rw [if_pos ha]; rfl
  rw [h0, dep_shift]
  have h1 := dep_le l 0 0 (by decide)
  rw [List.foldl_cons, List.foldl_nil]
  have h2 : ∀ p : Int × Int, (dep1 p b).1 = max p.1 (p.2 - 1) := by
    intro p
    unfold dep1
    rw [if_neg (by rw [hb']; exact Bool.false_ne_true), if_pos hb]
  rw [h2]
  simp only
  omega
end Go.Proofs.Ytkdogaomlocijaa
