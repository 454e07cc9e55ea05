/-
  PLAIN. The heap of numbers as functions on lists (no program).
-/
import Derived.Test.YtijohaeiiidcpaaGra
namespace Go.Proofs.Ytijohaeiiidcpaa
def swL (l : List Nat) (i j : Nat) : List Nat := (l.set i (gt l j)).set j (gt l i)
def upF : Nat → List Nat → Nat → List Nat
  | 0, l, _ => l
  | f + 1, l, j => if j = 0 then l else if gt l j < gt l ((j - 1) / 2) then upF f (swL l ((j - 1) / 2) j) ((j - 1) / 2) else l
def kidF (l : List Nat) (i n : Nat) : Nat := if 2 * i + 1 + 1 < n ∧ gt l (2 * i + 1 + 1) < gt l (2 * i + 1) then 2 * i + 1 + 1 else 2 * i + 1
def downF : Nat → List Nat → Nat → Nat → List Nat
  | 0, l, _, _ => l
  | f + 1, l, i, n => if n ≤ 2 * i + 1 then l else if gt l (kidF l i n) < gt l i then downF f (swL l i (kidF l i n)) (kidF l i n) n else l
def pushL (l : List Nat) (x : Nat) : List Nat := upF (l.length + 1) (l ++ [x]) l.length
def popD (l : List Nat) : List Nat := downF l.length (swL l 0 (l.length - 1)) 0 (l.length - 1)
def popL (l : List Nat) : Nat × List Nat := (gt (popD l) (l.length - 1), (popD l).dropLast)
theorem swL_len (l : List Nat) (i j : Nat) : (swL l i j).length = l.length := by unfold swL; rw [List.length_set, List.length_set]
theorem upF_len : ∀ (f : Nat) (l : List Nat) (j : Nat), (upF f l j).length = l.length
  | 0, l, j => rfl
  | f + 1, l, j => by
    unfold upF
    split
    · rfl
    · split
      · rw [upF_len f, swL_len]
      · rfl
theorem downF_len : ∀ (f : Nat) (l : List Nat) (i n : Nat), (downF f l i n).length = l.length
  | 0, l, i, n => rfl
  | f + 1, l, i, n => by
    unfold downF
    split
    · rfl
    · split
      · rw [downF_len f, swL_len]
      · rfl
theorem ex_heap : popL (pushL (pushL (pushL [] 3) 1) 2) = (1, [2, 3]) := by decide
end Go.Proofs.Ytijohaeiiidcpaa
