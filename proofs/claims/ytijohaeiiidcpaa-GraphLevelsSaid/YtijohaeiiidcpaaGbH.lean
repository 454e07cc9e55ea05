/-
  WALKS. The search: newSearch.
-/
import Derived.Test.YtijohaeiiidcpaaGbG
namespace Go.Proofs.Ytijohaeiiidcpaa
open Go.RowKit Go.Maps
theorem zA_list (n : Nat) : (madeCells #[Value.int .i64 0] n).toList = (zeros n).map iV := by
  rw [toList_madeCells_one]
  unfold zeros
  rw [List.map_replicate]
  rfl
theorem zA_size (n : Nat) : (madeCells #[Value.int .i64 0] n).size = n := by
  have := congrArg List.length (zA_list n)
  rw [List.length_map] at this
  unfold zeros at this
  rw [List.length_replicate] at this
  simpa using this
theorem mk_ints {n : Nat} (hn : n ≤ 1000000000) (w : World) : (Instr.makeSlice 30 (.int .i64 (n : Int)) (.int .i64 (n : Int))).run Try.prog w = .ok (.slice (some ⟨w.heap.size, 0, none⟩) n n) (w.alloc (.cells (madeCells #[Value.int .i64 0] n) 3)) := by
  obtain ⟨i0', hi, hz0, hz1, hz2⟩ := info_parts infoInt
  have := run_make (P := Try.prog) w 30 3 i0' (.int .i64 0) Try.underlying30 hi hz0 .i64 .i64 (n : Int) (n : Int) (by omega) (Int.le_refl _) (by rw [hz2]; omega) (by omega)
  rw [hz1] at this
  simpa [Value.cells] using this
/-- A row of zeros that has just been made. -/
theorem IR.made {w : World} {B g n : Nat} (hB : B ≤ g) (hg : w.heap[g]? = some (.cells (madeCells #[Value.int .i64 0] n) 3 (0, 0))) (hn : n ≤ 1000000000) : IR w B (.slice (some ⟨g, 0, none⟩) n n) (zeros n) := by
  have hz : (zeros n).length = n := List.length_replicate
  refine ⟨by rw [List.length_map]; omega, .inr ⟨g, n, _, by rw [hz], hB, hg, by rw [hz]; exact Nat.le_refl _, by unfold maxLen; omega, by rw [zA_size]; omega, ?_⟩⟩
  rw [zA_list, hz, Nat.mul_one, List.take_of_length_le (by rw [List.length_map, hz]; exact Nat.le_refl _)]
def rws (p l k m n : Nat) : Nat → Value
  | 0 => .slice (some ⟨p, 0, none⟩) n n
  | 1 => .slice (some ⟨l, 0, none⟩) n n
  | 2 => .slice (some ⟨k, 0, none⟩) n n
  | 3 => .slice (some ⟨m, 0, none⟩) n n
  | _ => .slice none 0 0
abbrev zO (n : Nat) : Obj := .cells (madeCells #[Value.int .i64 0] n) 3
theorem push_lt {a : Array Obj} {x : Obj} {g : Nat} (h : g < a.size) : (a.push x)[g]? = a[g]? := by rw [Array.getElem?_push, if_neg (by omega)]
theorem push_at {a : Array Obj} {x : Obj} {g : Nat} (h : g = a.size) : (a.push x)[g]? = some x := by rw [Array.getElem?_push, if_pos h]
theorem new_sm {w : World} {oE : Option Addr} {n cE p l k m : Nat} (hn : n ≤ 1000000000) (hp : w.heap.size ≤ p ∧ p < w.heap.size + 4) (hl : w.heap.size ≤ l ∧ l < w.heap.size + 4) (hk : w.heap.size ≤ k ∧ k < w.heap.size + 4) (hm : w.heap.size ≤ m ∧ m < w.heap.size + 4)
    (d1 : p ≠ l) (d2 : p ≠ k) (d3 : p ≠ m) (d4 : l ≠ k) (d5 : l ≠ m) (d6 : k ≠ m) :
    SM ((((((w.alloc (zO n)).alloc (zO n)).alloc (zO n)).alloc (zO n)).alloc (.cells #[.slice oE n cE, .slice (some ⟨p, 0, none⟩) n n, .slice (some ⟨l, 0, none⟩) n n, .slice (some ⟨k, 0, none⟩) n n, .slice (some ⟨m, 0, none⟩) n n, .slice none 0 0, .slice none 0 0, .int .i64 0, .int .i64 0] 71)).drew) w.heap.size (w.heap.size + 1 + 1 + 1 + 1) (.slice oE n cE) (rws p l k m n) (s0S n) := by
  have key : ∀ g, w.heap.size ≤ g ∧ g < w.heap.size + 4 → ∀ o : Obj, ((((((w.alloc (zO n)).alloc (zO n)).alloc (zO n)).alloc (zO n)).alloc o).drew).heap[g]? = some (zO n) := by
    intro g hg o
    show (((((w.heap.push (zO n)).push (zO n)).push (zO n)).push (zO n)).push o)[g]? = _
    have s1 : (w.heap.push (zO n)).size = w.heap.size + 1 := Array.size_push ..
    have s2 : ((w.heap.push (zO n)).push (zO n)).size = w.heap.size + 2 := by rw [Array.size_push, s1]
    have s3 : (((w.heap.push (zO n)).push (zO n)).push (zO n)).size = w.heap.size + 3 := by rw [Array.size_push, s2]
    have s4 : ((((w.heap.push (zO n)).push (zO n)).push (zO n)).push (zO n)).size = w.heap.size + 4 := by rw [Array.size_push, s3]
    rw [push_lt (by omega)]
    have : g = w.heap.size ∨ g = w.heap.size + 1 ∨ g = w.heap.size + 2 ∨ g = w.heap.size + 3 := by omega
    rcases this with e | e | e | e
    · rw [push_lt (by omega), push_lt (by omega), push_lt (by omega), push_at e]
    · rw [push_lt (by omega), push_lt (by omega), push_at (by omega)]
    · rw [push_lt (by omega), push_at (by omega)]
    · rw [push_at (by omega)]
  refine ⟨?_, by omega, fun i hi => ?_, ?_⟩
  · show (((((w.heap.push (zO n)).push (zO n)).push (zO n)).push (zO n)).push _)[w.heap.size + 1 + 1 + 1 + 1]? = _
    exact push_at (by rw [Array.size_push, Array.size_push, Array.size_push, Array.size_push])
  · match i, hi with
    | 0, _ => exact IR.made hp.1 (key p hp _) hn
    | 1, _ => exact IR.made hl.1 (key l hl _) hn
    | 2, _ => exact IR.made hk.1 (key k hk _) hn
    | 3, _ => exact IR.made hm.1 (key m hm _) hn
    | 4, _ => exact World.ownsRow_nil _ _ _ _
    | 5, _ => exact World.ownsRow_nil _ _ _ _
  · intro i j hi hj hij g hgi hgj
    match i, hi, j, hj with
    | 0, _, 0, _ => exact hij rfl
    | 1, _, 1, _ => exact hij rfl
    | 2, _, 2, _ => exact hij rfl
    | 3, _, 3, _ => exact hij rfl
    | 0, _, 1, _ => cases hgi; exact d1 (Option.some.inj hgj).symm
    | 0, _, 2, _ => cases hgi; exact d2 (Option.some.inj hgj).symm
    | 0, _, 3, _ => cases hgi; exact d3 (Option.some.inj hgj).symm
    | 1, _, 0, _ => cases hgi; exact d1 (Option.some.inj hgj)
    | 1, _, 2, _ => cases hgi; exact d4 (Option.some.inj hgj).symm
    | 1, _, 3, _ => cases hgi; exact d5 (Option.some.inj hgj).symm
    | 2, _, 0, _ => cases hgi; exact d2 (Option.some.inj hgj)
    | 2, _, 1, _ => cases hgi; exact d4 (Option.some.inj hgj)
    | 2, _, 3, _ => cases hgi; exact d6 (Option.some.inj hgj).symm
    | 3, _, 0, _ => cases hgi; exact d3 (Option.some.inj hgj)
    | 3, _, 1, _ => cases hgi; exact d5 (Option.some.inj hgj)
    | 3, _, 2, _ => cases hgi; exact d6 (Option.some.inj hgj)
    | 4, _, _, _ => cases hgi
    | 5, _, _, _ => cases hgi
    | 0, _, 4, _ => cases hgj
    | 0, _, 5, _ => cases hgj
    | 1, _, 4, _ => cases hgj
    | 1, _, 5, _ => cases hgj
    | 2, _, 4, _ => cases hgj
    | 2, _, 5, _ => cases hgj
    | 3, _, 4, _ => cases hgj
    | 3, _, 5, _ => cases hgj
end Go.Proofs.Ytijohaeiiidcpaa
