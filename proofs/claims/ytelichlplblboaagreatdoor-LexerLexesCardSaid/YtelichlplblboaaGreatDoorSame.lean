/-
  WALKS. Tokens in memory as they are read; Same.
-/
import Derived.Test.YtelichlplblboaaGreatDoorLd
import Derived.Deep.RegionWith
import Derived.Laws.StructEq
namespace Go.Proofs.YtelichlplblboaaGreatDoor
open Go.RowKit Go.Maps
/-- A token at ⟨b, o⟩. -/
structure TC (w : World) (b o : Nat) (t : Tok) : Prop where
  c0 : w.cell? ⟨b, o, none⟩ = some (.int .i64 t.op)
  c1 : w.cell? ⟨b, o + 1, none⟩ = some (.string t.qual)
  c2 : w.cell? ⟨b, o + 2, none⟩ = some (.string t.text)
  c3 : w.cell? ⟨b, o + 3, none⟩ = some (.int .i64 t.n)
  c4 : w.cell? ⟨b, o + 4, none⟩ = some (.bool t.auto)
  c5 : w.cell? ⟨b, o + 5, none⟩ = some (.int .i64 t.line)
  c6 : w.cell? ⟨b, o + 6, none⟩ = some (.int .i64 t.col)
theorem TC.only {w w' : World} {b o : Nat} {t : Tok} {K : Nat → Prop} (h : TC w b o t) (ho : Only K w w') (hk : ¬ K b) : TC w' b o t := by
  have hl : b < w.heap.size := cell_lt h.c0
  have e : ∀ k, w'.cell? ⟨b, k, none⟩ = w.cell? ⟨b, k, none⟩ := fun k => World.cell?_of_block (ho.block b hl hk)
  exact ⟨(e _).trans h.c0, (e _).trans h.c1, (e _).trans h.c2, (e _).trans h.c3, (e _).trans h.c4, (e _).trans h.c5, (e _).trans h.c6⟩
/-- A slice of tokens, read. -/
structure Tks (w : World) (oa : Option Addr) (n : Nat) (ts : List Tok) : Prop where
  len : ts.length = n
  cell : ∀ k (hk : k < ts.length), ∃ b o, oa = some ⟨b, o, none⟩ ∧ TC w b (o + k * 7) ts[k]
theorem Tks.only {w w' : World} {oa : Option Addr} {n : Nat} {ts : List Tok} {K : Nat → Prop} (h : Tks w oa n ts) (ho : Only K w w') (hk : ∀ a, oa = some a → ¬ K a.block) : Tks w' oa n ts :=
  ⟨h.len, fun k hl => by obtain ⟨b, o, e, hc⟩ := h.cell k hl; exact ⟨b, o, e, hc.only ho (hk _ e)⟩⟩
theorem Tks.keep {w w' : World} {oa : Option Addr} {n : Nat} {ts : List Tok} (h : Tks w oa n ts) (ho : Only (fun _ => False) w w') : Tks w' oa n ts := h.only ho (fun _ _ hc => hc)
theorem flat_get (ts : List Tok) : ∀ (k j : Nat) (hk : k < ts.length) (_ : j < 7), (ts.flatMap tokCells)[k * 7 + j]? = (tokCells ts[k])[j]? := by
  induction ts with
  | nil => intro k j hk; simp at hk
  | cons t ts ih =>
    intro k j hk hj
    rw [List.flatMap_cons]
    cases k with
    | zero => rw [List.getElem?_append_left (by simp [tokCells]; omega)]; simp
    | succ k =>
      rw [List.getElem?_append_right (by simp [tokCells]; omega)]
      have e : (k + 1) * 7 + j - (tokCells t).length = k * 7 + j := by simp [tokCells]; omega
      rw [e, ih k j (by simp at hk; omega) hj]
      rfl
/-- Tokens of a row, read. -/
theorem TR.tks {w : World} {B ca : Nat} {oa : Option Addr} {ts : List Tok} (h : TR w B (.slice oa ts.length ca) ts) : Tks w oa ts.length ts := by
  refine ⟨rfl, fun k hk => ?_⟩
  rcases h.2 with ⟨hv, hn⟩ | ⟨g, cap, cur, hv, hb, hg, hr⟩
  · omega
  · cases hv
    refine ⟨g, 0, rfl, ?_⟩
    have hc := World.ownsRow.cells h (g := g) rfl
    have key : ∀ j v, j < 7 → (tokCells ts[k])[j]? = some v → w.cell? ⟨g, 0 + k * 7 + j, none⟩ = some v := by
      intro j v hj hv
      have := hc (k * 7 + j) v (by rw [flat_get ts k j hk hj]; exact hv)
      have e : (⟨g, 0, none⟩ : Addr).add (k * 7 + j) = ⟨g, 0 + k * 7 + j, none⟩ := by
        unfold Addr.add; split
        · simp_all
        · simp
      rw [e] at this; exact this
    exact ⟨key 0 _ (by decide) rfl, key 1 _ (by decide) rfl, key 2 _ (by decide) rfl, key 3 _ (by decide) rfl, key 4 _ (by decide) rfl, key 5 _ (by decide) rfl, key 6 _ (by decide) rfl⟩
/-- A token, as a value. -/
abbrev tokV (t : Tok) : Value := .agg #[.int .i64 t.op, .string t.qual, .string t.text, .int .i64 t.n, .bool t.auto, .int .i64 t.line, .int .i64 t.col]
abbrev tokP (t : Tok) : Value := .agg #[.int .i64 t.op, .string t.qual, .string t.text, .int .i64 t.n, .bool false, .int .i64 0, .int .i64 0]
set_option maxHeartbeats 1000000 in
set_option maxRecDepth 100000 in
theorem withoutPosition_p (t : Tok) (w : World) :
    Calls Tryz.prog 34 #[tokV t] w fun e w' => e = .returned (tokP t) ∧ Only (fun _ => False) w w' := by
  go_enter Tryz.func34, Tryz.ntmps34
  go_wp2
  refine bodyPost_ret (v := tokP t) (by simp [results, Tryz.results34, go_sem]) rfl ⟨rfl, ?_⟩
  exact Only.of_below (((Below.refl _ _).alloc (Nat.le_refl _) _).alloc (by show w.heap.size ≤ (w.heap.push _).size; simp) _)
def sameT (x y : Tok) : Bool := (x.op == y.op) && (x.qual.toList == y.qual.toList) && (x.text.toList == y.text.toList) && (x.n == y.n)
def sameL (a b : List Tok) : Bool := (a.length == b.length) && (List.zipWith sameT a b).all id
theorem sameL_no {a b : List Tok} {k : Nat} (ha : k < a.length) (hb : k < b.length) (h : sameT a[k] b[k] = false) : sameL a b = false := by
  unfold sameL
  rw [Bool.and_eq_false_iff]
  right
  rw [List.all_eq_false]
  refine ⟨sameT a[k] b[k], ?_, by simp [h]⟩
  rw [show sameT a[k] b[k] = (List.zipWith sameT a b)[k]'(by simp; omega) from by simp]
  exact List.getElem_mem _
theorem sameL_yes {a b : List Tok} (hl : a.length = b.length) (h : ∀ k (ha : k < a.length) (hb : k < b.length), sameT a[k] b[k] = true) : sameL a b = true := by
  unfold sameL
  rw [Bool.and_eq_true]
  refine ⟨by simp [hl], ?_⟩
  rw [List.all_eq_true]
  intro x hx
  obtain ⟨k, hk, rfl⟩ := List.getElem_of_mem hx
  simp at hk
  simp [h k (by omega) (by omega)]
theorem sameL_len {a b : List Tok} (hl : a.length ≠ b.length) : sameL a b = false := by
  unfold sameL; simp [hl]
end Go.Proofs.YtelichlplblboaaGreatDoor
