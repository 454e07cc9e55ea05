/-
  WALKS. Explicit, the program's and the reference's.
-/
import Derived.Test.YthblchafjmgmbaaLzX
import Derived.Test.YthblchafjmgmbaaLyTk
import Derived.Laws.AppendOwnNone
import Derived.Laws.OwnMore
namespace Go.Proofs.Ythblchafjmgmbaa
open Go.RowKit Go.Maps
def offT (t : Tok) : Tok := { t with auto := false }
abbrev zT : Tok := ⟨0, ⟨#[]⟩, ⟨#[]⟩, 0, false, 0, 0⟩
theorem TR.fz {w : World} {B n ca g : Nat} {ts : List Tok} (h : TR w B (.slice (some ⟨g, 0, none⟩) n ca) ts) (j : Nat) : w.frozen? ⟨g, j, none⟩ = false := by
  rcases h.2 with ⟨hv, -⟩ | ⟨g', cap, cur, hv, -, hg, -⟩
  · cases hv
  · cases hv; simp [World.frozen?, hg]
theorem take_set {α : Type} (l : List α) (j m : Nat) (v : α) (hj : j < m) : (l.set j v).take m = (l.take m).set j v := by
  apply List.ext_getElem?
  intro i
  by_cases hi : i < m
  · rw [List.getElem?_take, List.getElem?_set, List.getElem?_set, List.getElem?_take, List.length_take]
    simp only [hi, if_true]
    by_cases he : j = i
    · subst he
      by_cases hl : j < l.length
      · rw [if_pos rfl, if_pos hl, if_pos rfl, if_pos (by omega)]
      · rw [if_pos rfl, if_neg hl, if_pos rfl, if_neg (by omega)]
    · rw [if_neg he, if_neg he]
  · rw [List.getElem?_eq_none (by rw [List.length_take]; omega), List.getElem?_eq_none (by rw [List.length_set, List.length_take]; omega)]
/-- A cell of a row is written: the row's cells are. -/
theorem row_set {w : World} {B n ca g size : Nat} {e : TypeId} {xs : List Value} (h : w.ownsRow B e size (.slice (some ⟨g, 0, none⟩) n ca) n xs) {j : Nat} (hj : j < n * size) (v : Value) : (w.setCell ⟨g, j, none⟩ v).ownsRow B e size (.slice (some ⟨g, 0, none⟩) n ca) n (xs.set j v) := by
  obtain ⟨h1, h2⟩ := h
  rcases h2 with ⟨hv, -⟩ | ⟨g', cap, cur, hv, hb, hg, hle, hm, hs, ht⟩
  · cases hv
  · cases hv
    refine ⟨by rw [List.length_set]; exact h1, .inr ⟨g, ca, cur.set! j v, rfl, hb, ?_, hle, hm, by simpa using hs, ?_⟩⟩
    · simp [World.setCell, Array.getElem?_modify, hg]
    · rw [← ht]
      simp only [Array.set!, Array.toList_setIfInBounds]
      exact take_set cur.toList j (n * size) v hj
/-- The k-th token of a row, cell by cell. -/
theorem flat_put (ts : List Tok) (t : Tok) : ∀ k, k < ts.length → (((((((ts.flatMap tokCells).set (k * 7) (.int .i64 t.op)).set (k * 7 + 1) (.string t.qual)).set (k * 7 + 2) (.string t.text)).set (k * 7 + 3) (.int .i64 t.n)).set (k * 7 + 4) (.bool t.auto)).set (k * 7 + 5) (.int .i64 t.line)).set (k * 7 + 6) (.int .i64 t.col) = (ts.set k t).flatMap tokCells := by
  induction ts with
  | nil => intro k hk; simp at hk
  | cons x ts ih =>
    intro k hk
    cases k with
    | zero => simp [tokCells]
    | succ k =>
      have h := ih k (by simpa using hk)
      have step : ∀ (l : List Value) (i : Nat) (v : Value), (tokCells x ++ l).set ((k + 1) * 7 + i) v = tokCells x ++ l.set (k * 7 + i) v := by
        intro l i v
        rw [List.set_append_right _ _ (by simp [tokCells]; omega)]
        have e : (k + 1) * 7 + i - (tokCells x).length = k * 7 + i := by simp [tokCells]; omega
        rw [e]
      have step0 := fun l v => step l 0 v
      simp only [Nat.add_zero] at step0
      rw [List.flatMap_cons, step0, step, step, step, step, step, step, h, List.set_cons_succ, List.flatMap_cons]
theorem flat_auto (ts : List Tok) : ∀ k (hk : k < ts.length), (ts.flatMap tokCells).set (k * 7 + 4) (.bool false) = (ts.set k (offT ts[k])).flatMap tokCells := by
  induction ts with
  | nil => intro k hk; simp at hk
  | cons x ts ih =>
    intro k hk
    cases k with
    | zero => simp [tokCells, offT]
    | succ k =>
      have h := ih k (by simpa using hk)
      rw [List.flatMap_cons, List.set_append_right _ _ (by simp [tokCells]; omega)]
      have e : (k + 1) * 7 + 4 - (tokCells x).length = k * 7 + 4 := by simp [tokCells]; omega
      rw [e, h, List.set_cons_succ, List.flatMap_cons]
      rfl
theorem TR.put7 {w : World} {B ca g : Nat} {l : List Tok} {k : Nat} (h : TR w B (.slice (some ⟨g, 0, none⟩) l.length ca) l) (hk : k < l.length) (t : Tok) :
    TR (((((((w.setCell ⟨g, k * 7, none⟩ (.int .i64 t.op)).setCell ⟨g, k * 7 + 1, none⟩ (.string t.qual)).setCell ⟨g, k * 7 + 2, none⟩ (.string t.text)).setCell ⟨g, k * 7 + 3, none⟩ (.int .i64 t.n)).setCell ⟨g, k * 7 + 4, none⟩ (.bool t.auto)).setCell ⟨g, k * 7 + 5, none⟩ (.int .i64 t.line)).setCell ⟨g, k * 7 + 6, none⟩ (.int .i64 t.col)) B (.slice (some ⟨g, 0, none⟩) l.length ca) (l.set k t) := by
  have h0 := row_set h (j := k * 7) (by omega) (.int .i64 t.op)
  have h1 := row_set h0 (j := k * 7 + 1) (by omega) (.string t.qual)
  have h2 := row_set h1 (j := k * 7 + 2) (by omega) (.string t.text)
  have h3 := row_set h2 (j := k * 7 + 3) (by omega) (.int .i64 t.n)
  have h4 := row_set h3 (j := k * 7 + 4) (by omega) (.bool t.auto)
  have h5 := row_set h4 (j := k * 7 + 5) (by omega) (.int .i64 t.line)
  have h6 := row_set h5 (j := k * 7 + 6) (by omega) (.int .i64 t.col)
  rw [flat_put l t k hk] at h6
  unfold TR
  rw [List.length_set]
  exact h6
theorem TR.off {w : World} {B ca g : Nat} {l : List Tok} {k : Nat} (h : TR w B (.slice (some ⟨g, 0, none⟩) l.length ca) l) (hk : k < l.length) :
    TR (w.setCell ⟨g, k * 7 + 4, none⟩ (.bool false)) B (.slice (some ⟨g, 0, none⟩) l.length ca) (l.set k (offT l[k])) := by
  have h4 := row_set h (j := k * 7 + 4) (by omega) (.bool false)
  rw [flat_auto l k hk] at h4
  unfold TR
  rw [List.length_set]
  exact h4
/-- What is done, and what is still to be done. -/
def half (ts us : List Tok) (k : Nat) : List Tok := explL (ts.take k) ++ us.drop k
theorem half_len (ts us : List Tok) {k : Nat} (hl : us.length = ts.length) (hk : k ≤ ts.length) : (half ts us k).length = ts.length := by
  unfold half explL
  rw [List.length_append, List.length_map, List.length_take, List.length_drop]; omega
theorem half_at (ts us : List Tok) {k : Nat} (hl : us.length = ts.length) (hk : k < ts.length) (h : k < (half ts us k).length) : (half ts us k)[k] = us[k]'(by omega) := by
  have hlen : (explL (ts.take k)).length = k := by unfold explL; rw [List.length_map, List.length_take]; omega
  have h1 : (half ts us k)[k]? = us[k]? := by
    unfold half
    rw [List.getElem?_append_right (by omega), List.getElem?_drop, hlen, Nat.sub_self, Nat.add_zero]
  rw [List.getElem?_eq_getElem h, List.getElem?_eq_getElem (by omega)] at h1
  exact Option.some.inj h1
theorem half_set (ts us : List Tok) {k : Nat} (hl : us.length = ts.length) (hk : k < ts.length) : (half ts us k).set k (offT ts[k]) = half ts us (k + 1) := by
  unfold half
  have hlen : (explL (ts.take k)).length = k := by unfold explL; rw [List.length_map, List.length_take]; omega
  rw [List.set_append_right _ _ (by omega), hlen, Nat.sub_self, List.drop_eq_getElem_cons (by omega : k < us.length), List.set_cons_zero, List.take_succ_eq_append_getElem hk]
  unfold explL
  rw [List.map_append, List.append_assoc]
  rfl
theorem half_end (ts us : List Tok) {k : Nat} (hl : us.length = ts.length) (hk : ts.length ≤ k) : half ts us k = explL ts := by
  unfold half
  rw [List.take_of_length_le hk, List.drop_eq_nil_of_le (by omega), List.append_nil]
theorem half_zero (ts us : List Tok) : half ts us 0 = us := rfl
end Go.Proofs.Ythblchafjmgmbaa
