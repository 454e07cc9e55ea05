/-
  WALKS. A slice of numbers, of whatever length, appended.
-/
import Derived.Test.YtigmdiagdlbdpaaGreatGbQ
import Derived.Deep.Upon
namespace Go.Proofs.YtigmdiagdlbdpaaGreat
open Go.RowKit Go.Maps
theorem ints_news {w : World} {b o n : Nat} {l : List Nat} (h : Ints w (some ⟨b, o, none⟩) n l) : ∀ j u, (l.map iV)[j]? = some u → w.cell? ((⟨b, o, none⟩ : Addr).add j) = some u := fun j u hu => by
  rw [List.getElem?_map] at hu
  cases hj : l[j]? with
  | none => rw [hj] at hu; cases hu
  | some x =>
    rw [hj] at hu
    cases hu
    obtain ⟨hjl, e⟩ := List.getElem?_eq_some_iff.1 hj
    obtain ⟨b', o', e', hc⟩ := h.cell j hjl
    cases e'
    rw [add_plain, hc, gt_at hjl, e]
theorem ints_one (l : List Nat) : ∀ u ∈ l.map iV, u.oneCell' = true := fun u hu => by
  obtain ⟨x, -, rfl⟩ := List.mem_map.1 hu
  rfl
/-- What is appended: a slice of numbers, of whatever length, wherever it lies. -/
theorem run_append_ints (w : World) (ty : TypeId) (B n : Nat) (v : Value) (xs : List Value) (hown : w.ownsRow B 3 1 v n xs) (oS : Option Addr) (m c : Nat) (l : List Nat) (hS : Ints w oS m l) (hsz : n + m ≤ 10000000000000) (hB : B ≤ w.heap.size) :
    ∃ v' w', (Builtin.append_ #[55, 55] ty #[v, .slice oS m c]).run Tryz.prog w = .ok v' w' ∧ w'.ownsRow B 3 1 v' (n + m) (xs ++ l.map iV) ∧ w.grownBy w' v.ownBlock ∧ (v'.ownBlock = v.ownBlock ∨ v'.ownBlock = some w.heap.size) := by
  obtain ⟨i0', hi, hz0, hz1, hz2⟩ := info_parts infoInt
  have nothing : ∀ (x : Value), Src Tryz.prog i0'.size 55 x 0 [] w → (Builtin.append_ #[55, 55] ty #[v, x]).run Tryz.prog w = .ok v w := fun x hx => by
    rcases hown.2 with ⟨rfl, -⟩ | ⟨g, cap, cur, rfl, -, -, hle, -⟩
    · exact Go.run_append_nothing w _ _ ty _ i0' Tryz.underlying55 hi none 0 0 (Nat.le_refl _) _ hx
    · exact Go.run_append_nothing w _ _ ty _ i0' Tryz.underlying55 hi _ n cap hle _ hx
  cases oS with
  | none =>
    have hl : l = [] := by
      cases l with
      | nil => rfl
      | cons x r =>
        obtain ⟨b, o, e, -⟩ := hS.cell 0 (by simp)
        cases e
    have hm : m = 0 := by rw [← hS.len, hl]; rfl
    subst hl
    subst hm
    exact ⟨v, w, nothing _ (Go.Src.ofNil (size := i0'.size) w Tryz.underlying55 c), by simpa using hown, World.grownBy.refl _ _, .inl rfl⟩
  | some ad =>
    by_cases hm : m = 0
    · subst hm
      have hl : l = [] := List.length_eq_zero_iff.1 hS.len
      subst hl
      exact ⟨v, w, nothing _ (Go.Src.ofSlice (size := i0'.size) w Tryz.underlying55 ad 0 c [] (by simp) (fun j u h => by simp at h) (fun u h => by cases h)), by simpa using hown, World.grownBy.refl _ _, .inl rfl⟩
    · obtain ⟨b, o, e, -⟩ := hS.cell 0 (by rw [hS.len]; omega)
      cases e
      obtain ⟨v', w', h1, h2, h3, -, h5⟩ := run_append_own_at (P := Tryz.prog) w B 55 ty 3 i0' (.int .i64 0) 1 8 Tryz.underlying55 hi hz0 hz1 hz2 rfl (by decide) v n xs hown ⟨b, o, none⟩ m c (l.map iV) (by rw [List.length_map, hS.len, Nat.mul_one]) (ints_news hS) (ints_one l) (by unfold maxLen; omega) (by omega) hB
      exact ⟨v', w', h1, h2, h3, h5⟩
theorem wpList_append_ints {w : World} {ops : Array Oper} {rest : List Oper} {o : Oper} {a : Act} {Q : Exit → Act → World → Prop} (hg : o.guard = none) (s x : Operand)
    (ho : o.op = .call { callee := .builtin .append, args := #[s, x], argTypes := #[55, 55] }) (B n : Nat) (v : Value) (xs : List Value) (hs : a.eval s = v) (hown : w.ownsRow B 3 1 v n xs) (oS : Option Addr) (m c : Nat) (l : List Nat) (hx : a.eval x = .slice oS m c) (hS : Ints w oS m l)
    (hsz : n + m ≤ 10000000000000) (hB : B ≤ w.heap.size) (h : ∀ v' w', w'.ownsRow B 3 1 v' (n + m) (xs ++ l.map iV) → w.grownBy w' v.ownBlock → (v'.ownBlock = v.ownBlock ∨ v'.ownBlock = some w.heap.size) → wpList Tryz.prog ops Q rest (a.put o.dst v') w') : wpList Tryz.prog ops Q (o :: rest) a w := by
  obtain ⟨v', w', h1, h2, h3, h4⟩ := run_append_ints w o.type B n v xs hown oS m c l hS hsz hB
  refine wpList_plain hg fun K hK => ?_
  unfold Oper.wp
  simp [execOp, ho, resolve, invoke, builtin, hs, hx, h1, Result.andThen]
  exact hK _ _ (h v' w' h2 h3 h4)
theorem row_zero {w : World} {B g : Nat} (hB : B ≤ g) (hg : w.heap[g]? = some (.cells #[] 3 (0, 0))) : w.ownsRow B 3 1 (.slice (some ⟨g, 0, none⟩) 0 0) 0 [] :=
  ⟨rfl, .inr ⟨g, 0, #[], rfl, hB, hg, Nat.le_refl _, by unfold maxLen; omega, rfl, rfl⟩⟩
end Go.Proofs.YtigmdiagdlbdpaaGreat
