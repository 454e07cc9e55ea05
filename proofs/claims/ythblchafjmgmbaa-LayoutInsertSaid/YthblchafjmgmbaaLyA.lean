/-
  WALKS. The inserter in memory: its cells, its stack's elements, its tokens; what a call leaves alone.
-/
import Derived.Test.YthblchafjmgmbaaProg
import Derived.Test.YthblchafjmgmbaaIok
import Derived.WalkKit
import Derived.LoopN
import Derived.Lib.Hide
import Derived.WalkSpells
import Derived.WalkLawsBesides
import Derived.OneCell
import Derived.OwnWalk
import Derived.RegionTactic
import Derived.ChangeAlike
import Derived.Maps.AppendAt
import Derived.Laws.Cells
import Derived.Laws.StructEq
import Derived.Deep.LoopGhost
import Derived.Deep.RegionWith
import Derived.Deep.AppendLies
import Derived.Deep.RegionLaw
namespace Go.Proofs.Ythblchafjmgmbaa
open Go.RowKit Go.Maps
theorem ret_bool {a b : Bool} (h : a = b) : Ending.returned (.bool a) = Ending.returned (.bool b) := by rw [h]
theorem ret_int {k : IntKind} {a b : Int} (h : a = b) : Ending.returned (.int k a) = Ending.returned (.int k b) := by rw [h]
theorem cell_lt {w : World} {b o : Nat} {v : Value} (h : w.cell? ⟨b, o, none⟩ = some v) : b < w.heap.size := by
  by_cases hl : b < w.heap.size
  · exact hl
  · have : w.heap[b]? = none := Array.getElem?_eq_none (by omega)
    simp [World.cell?, this] at h
theorem new_block (w : World) (o : Obj) : (w.alloc o).heap[w.heap.size]? = some o := by
  show (w.heap.push o)[w.heap.size]? = _
  simp
/-- w' is w but for the blocks that K names, and new ones. -/
structure Only (K : Nat → Prop) (w w' : World) : Prop where
  os : w'.os = w.os
  tape : w'.tape = w.tape
  output : w'.output = w.output
  size : w.heap.size ≤ w'.heap.size
  block : ∀ k, k < w.heap.size → ¬ K k → w'.heap[k]? = w.heap[k]?
theorem Only.refl (K : Nat → Prop) (w : World) : Only K w w := ⟨rfl, rfl, rfl, Nat.le_refl _, fun _ _ _ => rfl⟩
theorem Only.trans {K : Nat → Prop} {a b c : World} (h : Only K a b) (k : Only K b c) : Only K a c :=
  ⟨k.os.trans h.os, k.tape.trans h.tape, k.output.trans h.output, Nat.le_trans h.size k.size, fun i hi hk => (k.block i (Nat.lt_of_lt_of_le hi h.size) hk).trans (h.block i hi hk)⟩
theorem Only.wide {K K' : Nat → Prop} {a b : World} (h : Only K a b) (hk : ∀ i, K i → K' i) : Only K' a b :=
  ⟨h.os, h.tape, h.output, h.size, fun i hi hn => h.block i hi (fun hc => hn (hk i hc))⟩
theorem Only.lift {K : Nat → Prop} {a b : World} (h : Only (fun _ => False) a b) : Only K a b := h.wide (fun _ hc => hc.elim)
theorem Only.of_below {K : Nat → Prop} {a b : World} (h : Below a.heap.size a b) : Only K a b := ⟨h.os, h.tape, h.output, h.size, fun i hi _ => h.block i hi⟩
theorem Only.below {K : Nat → Prop} {a b : World} {B : Nat} (h : Only K a b) (hB : B ≤ a.heap.size) (hk : ∀ i, K i → B ≤ i) : Below B a b :=
  ⟨h.os, h.tape, h.output, h.size, fun i hi => h.block i (by omega) (fun hc => by have := hk i hc; omega)⟩
theorem Only.setCell {K : Nat → Prop} {w w' : World} (h : Only K w w') {b k : Nat} (hb : K b) (v : Value) : Only K w (w'.setCell ⟨b, k, none⟩ v) :=
  ⟨h.os, h.tape, h.output, by have := h.size; simpa [World.setCell] using this, fun i hi hn => by rw [Below.heap_setCell _ _ _ _ (fun e => hn (by rw [e]; exact hb))]; exact h.block i hi hn⟩
theorem Only.drew {K : Nat → Prop} {w w' : World} (h : Only K w w') : Only K w w'.drew := ⟨h.os, h.tape, h.output, h.size, h.block⟩
theorem Only.alloc {K : Nat → Prop} {w w' : World} (h : Only K w w') (o : Obj) : Only K w (w'.alloc o) :=
  h.trans (Only.of_below ((Below.refl _ _).alloc (Nat.le_refl _) o))
theorem Only.grown {w w' : World} {K : Nat → Prop} {row : Option Nat} (hg : w.grownBy w' row) (hk : ∀ g, row = some g → K g) : Only K w w' :=
  ⟨hg.os, hg.tape, hg.output, hg.size, fun i hi hn => hg.block i hi (fun e => hn (hk i e.symm))⟩
/-- A cell of a new block is written. -/
theorem Only.setNew {K : Nat → Prop} {w w' : World} (h : Only K w w') {b k : Nat} (hb : w.heap.size ≤ b) (v : Value) : Only K w (w'.setCell ⟨b, k, none⟩ v) :=
  ⟨h.os, h.tape, h.output, by have := h.size; simpa [World.setCell] using this, fun i hi hn => by rw [Below.heap_setCell _ _ _ _ (fun e => by have : i = b := e; omega)]; exact h.block i hi hn⟩
/-- What touches beside K new blocks alone. -/
theorem Only.then {K K' : Nat → Prop} {a b c : World} (h : Only K a b) (k : Only K' b c) (hk : ∀ i, K' i → K i ∨ a.heap.size ≤ i) : Only K a c :=
  ⟨k.os.trans h.os, k.tape.trans h.tape, k.output.trans h.output, Nat.le_trans h.size k.size, fun i hi hn => (k.block i (Nat.lt_of_lt_of_le hi h.size) (fun hc => (hk i hc).elim hn (fun hl => by omega))).trans (h.block i hi hn)⟩
theorem rowKeep {w w' : World} {B n size : Nat} {e : TypeId} {v : Value} {xs : List Value} (h : w.ownsRow B e size v n xs) (hb : ∀ g, v.ownBlock = some g → w'.heap[g]? = w.heap[g]?) : w'.ownsRow B e size v n xs := by
  obtain ⟨h1, h2⟩ := h
  refine ⟨h1, ?_⟩
  rcases h2 with hn | ⟨g, cap, cur, hv, hB, hg, hr⟩
  · exact .inl hn
  · refine .inr ⟨g, cap, cur, hv, hB, ?_, hr⟩
    rw [hb g (by rw [hv]; rfl)]; exact hg
theorem rowForm {w : World} {B n size : Nat} {e : TypeId} {v : Value} {xs : List Value} (h : w.ownsRow B e size v n xs) : ∃ oa ca, v = .slice oa n ca := by
  rcases h.2 with ⟨hv, hn⟩ | ⟨g, cap, cur, hv, -⟩
  · exact ⟨none, 0, by rw [hn]; exact hv⟩
  · exact ⟨some ⟨g, 0, none⟩, cap, hv⟩
/-- Two rows of different types lie apart. -/
theorem rowApart {w : World} {B B' n n' size size' : Nat} {e e' : TypeId} {v v' : Value} {xs xs' : List Value} (h : w.ownsRow B e size v n xs) (h' : w.ownsRow B' e' size' v' n' xs') (hne : e ≠ e') {g : Nat} (hg : v.ownBlock = some g) : v'.ownBlock ≠ some g := by
  intro hg'
  rcases h.2 with ⟨hv, -⟩ | ⟨g1, cap, cur, hv, -, hb, -⟩
  · rw [hv] at hg; cases hg
  rcases h'.2 with ⟨hv', -⟩ | ⟨g2, cap', cur', hv', -, hb', -⟩
  · rw [hv'] at hg'; cases hg'
  rw [hv] at hg
  rw [hv'] at hg'
  cases hg
  cases hg'
  rw [hb] at hb'
  cases hb'
  exact hne rfl
/-- A row of records of m cells. -/
theorem flat_getM {α : Type} (m : Nat) (f : α → List Value) (hf : ∀ a, (f a).length = m) (ts : List α) : ∀ (k j : Nat) (hk : k < ts.length) (_ : j < m), (ts.flatMap f)[k * m + j]? = (f ts[k])[j]? := by
  induction ts with
  | nil => intro k j hk; simp at hk
  | cons t ts ih =>
    intro k j hk hj
    rw [List.flatMap_cons]
    cases k with
    | zero => rw [List.getElem?_append_left (by rw [hf]; omega)]; simp
    | succ k =>
      rw [List.getElem?_append_right (by rw [hf, Nat.add_mul]; omega)]
      have e : (k + 1) * m + j - (f t).length = k * m + j := by rw [hf, Nat.add_mul]; omega
      rw [e, ih k j (by simp at hk; omega) hj]
      rfl
theorem flat_len {α : Type} (m : Nat) (f : α → List Value) (hf : ∀ a, (f a).length = m) (ts : List α) : (ts.flatMap f).length = ts.length * m := by
  induction ts with
  | nil => simp
  | cons t ts ih => rw [List.flatMap_cons, List.length_append, hf, ih, List.length_cons, Nat.add_mul]; omega
def tokCells (t : Tok) : List Value := [.int .i64 t.op, .string t.qual, .string t.text, .int .i64 t.n, .bool t.auto, .int .i64 t.line, .int .i64 t.col]
def elCells (e : El) : List Value := [.int .i64 e.kind, .int .i64 e.col, .string e.word, .bool e.marked, .int .i64 e.blk, .int .i64 e.ctx]
theorem tokCells_len (t : Tok) : (tokCells t).length = 7 := rfl
theorem elCells_len (e : El) : (elCells e).length = 6 := rfl
abbrev tokV (t : Tok) : Value := .agg #[.int .i64 t.op, .string t.qual, .string t.text, .int .i64 t.n, .bool t.auto, .int .i64 t.line, .int .i64 t.col]
abbrev tokA (t : Tok) : Array Value := #[.int .i64 t.op, .string t.qual, .string t.text, .int .i64 t.n, .bool t.auto, .int .i64 t.line, .int .i64 t.col]
abbrev elV (e : El) : Value := .agg #[.int .i64 e.kind, .int .i64 e.col, .string e.word, .bool e.marked, .int .i64 e.blk, .int .i64 e.ctx]
abbrev elA (e : El) : Array Value := #[.int .i64 e.kind, .int .i64 e.col, .string e.word, .bool e.marked, .int .i64 e.blk, .int .i64 e.ctx]
theorem infoTok : (Try.prog.info? 33).map (fun i => (i.zero, i.size, i.bytes)) = some (some (.agg #[.int .i64 0, .string ⟨#[]⟩, .string ⟨#[]⟩, .int .i64 0, .bool false, .int .i64 0, .int .i64 0]), 7, 72) := by kernel_rfl
theorem infoEl : (Try.prog.info? 59).map (fun i => (i.zero, i.size, i.bytes)) = some (some (.agg #[.int .i64 0, .int .i64 0, .string ⟨#[]⟩, .bool false, .int .i64 0, .int .i64 0]), 6, 56) := by kernel_rfl
/-- Tokens, elements in a row of the call's own. -/
def TR (w : World) (B : Nat) (v : Value) (ts : List Tok) : Prop := w.ownsRow B 33 7 v ts.length (ts.flatMap tokCells)
def ER (w : World) (B : Nat) (v : Value) (es : List El) : Prop := w.ownsRow B 59 6 v es.length (es.flatMap elCells)
theorem TR.only {w w' : World} {B : Nat} {v : Value} {ts : List Tok} {K : Nat → Prop} (h : TR w B v ts) (ho : Only K w w') (hk : ∀ g, v.ownBlock = some g → ¬ K g) : TR w' B v ts :=
  rowKeep h (fun g hg => ho.block g ((World.ownsRow.lt h g hg).2) (hk g hg))
theorem ER.only {w w' : World} {B : Nat} {v : Value} {es : List El} {K : Nat → Prop} (h : ER w B v es) (ho : Only K w w') (hk : ∀ g, v.ownBlock = some g → ¬ K g) : ER w' B v es :=
  rowKeep h (fun g hg => ho.block g ((World.ownsRow.lt h g hg).2) (hk g hg))
theorem TR.snoc {w : World} {B : Nat} {v : Value} {ts : List Tok} {t : Tok} (h : w.ownsRow B 33 7 v (ts.length + 1) (ts.flatMap tokCells ++ tokCells t)) : TR w B v (ts ++ [t]) := by
  unfold TR
  rw [List.length_append, List.flatMap_append]
  simpa using h
theorem ER.snoc {w : World} {B : Nat} {v : Value} {es : List El} {e : El} (h : w.ownsRow B 59 6 v (es.length + 1) (es.flatMap elCells ++ elCells e)) : ER w B v (es ++ [e]) := by
  unfold ER
  rw [List.length_append, List.flatMap_append]
  simpa using h
theorem one_tok (t : Tok) : ∀ u ∈ tokCells t, u.oneCell' = true := by
  intro u hu
  simp [tokCells] at hu
  rcases hu with rfl | rfl | rfl | rfl | rfl | rfl | rfl <;> rfl
theorem one_el (e : El) : ∀ u ∈ elCells e, u.oneCell' = true := by
  intro u hu
  simp [elCells] at hu
  rcases hu with rfl | rfl | rfl | rfl | rfl | rfl <;> rfl
/-- A token at ⟨b, o⟩. -/
structure TC (w : World) (b o : Nat) (t : Tok) : Prop where
  c0 : w.cell? ⟨b, o, none⟩ = some (.int .i64 t.op)
  c1 : w.cell? ⟨b, o + 1, none⟩ = some (.string t.qual)
  c2 : w.cell? ⟨b, o + 2, none⟩ = some (.string t.text)
  c3 : w.cell? ⟨b, o + 3, none⟩ = some (.int .i64 t.n)
  c4 : w.cell? ⟨b, o + 4, none⟩ = some (.bool t.auto)
  c5 : w.cell? ⟨b, o + 5, none⟩ = some (.int .i64 t.line)
  c6 : w.cell? ⟨b, o + 6, none⟩ = some (.int .i64 t.col)
/-- An element at ⟨b, o⟩. -/
structure EC (w : World) (b o : Nat) (e : El) : Prop where
  c0 : w.cell? ⟨b, o, none⟩ = some (.int .i64 e.kind)
  c1 : w.cell? ⟨b, o + 1, none⟩ = some (.int .i64 e.col)
  c2 : w.cell? ⟨b, o + 2, none⟩ = some (.string e.word)
  c3 : w.cell? ⟨b, o + 3, none⟩ = some (.bool e.marked)
  c4 : w.cell? ⟨b, o + 4, none⟩ = some (.int .i64 e.blk)
  c5 : w.cell? ⟨b, o + 5, none⟩ = some (.int .i64 e.ctx)
theorem TC.only {w w' : World} {b o : Nat} {t : Tok} {K : Nat → Prop} (h : TC w b o t) (ho : Only K w w') (hk : ¬ K b) : TC w' b o t := by
  have hl : b < w.heap.size := cell_lt h.c0
  have e : ∀ k, w'.cell? ⟨b, k, none⟩ = w.cell? ⟨b, k, none⟩ := fun k => World.cell?_of_block (ho.block b hl hk)
  exact ⟨(e _).trans h.c0, (e _).trans h.c1, (e _).trans h.c2, (e _).trans h.c3, (e _).trans h.c4, (e _).trans h.c5, (e _).trans h.c6⟩
theorem EC.only {w w' : World} {b o : Nat} {t : El} {K : Nat → Prop} (h : EC w b o t) (ho : Only K w w') (hk : ¬ K b) : EC w' b o t := by
  have hl : b < w.heap.size := cell_lt h.c0
  have e : ∀ k, w'.cell? ⟨b, k, none⟩ = w.cell? ⟨b, k, none⟩ := fun k => World.cell?_of_block (ho.block b hl hk)
  exact ⟨(e _).trans h.c0, (e _).trans h.c1, (e _).trans h.c2, (e _).trans h.c3, (e _).trans h.c4, (e _).trans h.c5⟩
theorem add_plain (b k j : Nat) : (⟨b, k, none⟩ : Addr).add j = ⟨b, k + j, none⟩ := by
  unfold Addr.add; split <;> simp_all
/-- The k-th element of a row, read. -/
theorem ER.at {w : World} {B n ca : Nat} {oa : Option Addr} {es : List El} (h : ER w B (.slice oa n ca) es) {k : Nat} (hk : k < es.length) : ∃ g, oa = some ⟨g, 0, none⟩ ∧ B ≤ g ∧ n = es.length ∧ n ≤ ca ∧ EC w g (k * 6) es[k] ∧ (∀ j, w.frozen? ⟨g, j, none⟩ = false) := by
  rcases h.2 with ⟨hv, hn⟩ | ⟨g, cap, cur, hv, hb, hg, hle, hr⟩
  · omega
  · cases hv
    refine ⟨g, rfl, hb, rfl, hle, ?_, fun j => by simp [World.frozen?, hg]⟩
    have hc := World.ownsRow.cells h (g := g) rfl
    have key : ∀ j v, j < 6 → (elCells es[k])[j]? = some v → w.cell? ⟨g, k * 6 + j, none⟩ = some v := by
      intro j v hj hv
      have := hc (k * 6 + j) v (by rw [flat_getM 6 elCells elCells_len es k j hk hj]; exact hv)
      rw [add_plain, Nat.zero_add] at this
      exact this
    exact ⟨key 0 _ (by decide) rfl, key 1 _ (by decide) rfl, key 2 _ (by decide) rfl, key 3 _ (by decide) rfl, key 4 _ (by decide) rfl, key 5 _ (by decide) rfl⟩
theorem TR.at {w : World} {B n ca : Nat} {oa : Option Addr} {ts : List Tok} (h : TR w B (.slice oa n ca) ts) {k : Nat} (hk : k < ts.length) : ∃ g, oa = some ⟨g, 0, none⟩ ∧ B ≤ g ∧ n = ts.length ∧ n ≤ ca ∧ TC w g (k * 7) ts[k] := by
  rcases h.2 with ⟨hv, hn⟩ | ⟨g, cap, cur, hv, hb, hg, hle, hr⟩
  · omega
  · cases hv
    refine ⟨g, rfl, hb, rfl, hle, ?_⟩
    have hc := World.ownsRow.cells h (g := g) rfl
    have key : ∀ j v, j < 7 → (tokCells ts[k])[j]? = some v → w.cell? ⟨g, k * 7 + j, none⟩ = some v := by
      intro j v hj hv
      have := hc (k * 7 + j) v (by rw [flat_getM 7 tokCells tokCells_len ts k j hk hj]; exact hv)
      rw [add_plain, Nat.zero_add] at this
      exact this
    exact ⟨key 0 _ (by decide) rfl, key 1 _ (by decide) rfl, key 2 _ (by decide) rfl, key 3 _ (by decide) rfl, key 4 _ (by decide) rfl, key 5 _ (by decide) rfl, key 6 _ (by decide) rfl⟩
/-- A slice of tokens, read. -/
structure Tks (w : World) (oa : Option Addr) (n : Nat) (ts : List Tok) : Prop where
  len : ts.length = n
  cell : ∀ k (hk : k < ts.length), ∃ b o, oa = some ⟨b, o, none⟩ ∧ TC w b (o + k * 7) ts[k]
theorem Tks.only {w w' : World} {oa : Option Addr} {n : Nat} {ts : List Tok} {K : Nat → Prop} (h : Tks w oa n ts) (ho : Only K w w') (hk : ∀ a, oa = some a → ¬ K a.block) : Tks w' oa n ts :=
  ⟨h.len, fun k hl => by obtain ⟨b, o, e, hc⟩ := h.cell k hl; exact ⟨b, o, e, hc.only ho (hk _ e)⟩⟩
theorem Tks.keep {w w' : World} {oa : Option Addr} {n : Nat} {ts : List Tok} (h : Tks w oa n ts) (ho : Only (fun _ => False) w w') : Tks w' oa n ts := h.only ho (fun _ _ hc => hc)
theorem TR.tks {w : World} {B ca : Nat} {oa : Option Addr} {ts : List Tok} (h : TR w B (.slice oa ts.length ca) ts) : Tks w oa ts.length ts :=
  ⟨rfl, fun k hk => by obtain ⟨g, e, -, -, -, hc⟩ := h.at hk; exact ⟨g, 0, e, by rw [Nat.zero_add]; exact hc⟩⟩
/-- The top is taken off. -/
theorem ER.pop {w : World} {B n ca : Nat} {oa : Option Addr} {es : List El} (h : ER w B (.slice oa n ca) es) (h0 : 0 < es.length) : ER w B (.slice oa (n - 1) ca) es.dropLast := by
  rcases h.2 with ⟨hv, hn⟩ | ⟨g, cap, cur, hv, hb, hg, hle, hm, hs, ht⟩
  · omega
  · cases hv
    refine ⟨by rw [flat_len 6 elCells elCells_len], .inr ⟨g, ca, cur, by rw [List.length_dropLast], hb, hg, by rw [List.length_dropLast]; omega, hm, hs, ?_⟩⟩
    have h1 : cur.toList.take (es.dropLast.length * 6) = (cur.toList.take (es.length * 6)).take (es.dropLast.length * 6) := by
      rw [List.take_take]; congr 1; rw [List.length_dropLast]; omega
    rw [h1, ht]
    obtain ⟨ys, y, rfl⟩ : ∃ ys y, es = ys ++ [y] := ⟨_, _, (List.dropLast_concat_getLast (by intro e; rw [e] at h0; exact absurd h0 (by decide))).symm⟩
    have hle2 := flat_len 6 elCells elCells_len ys
    rw [List.dropLast_concat, List.flatMap_append, List.take_append_of_le_length (by omega), List.take_of_length_le (by omega)]
/-- A mark is set. -/
theorem modify_flat (es : List El) (b : Bool) : ∀ k, k < es.length → (es.flatMap elCells).set (k * 6 + 3) (.bool b) = (es.modify k (fun e => { e with marked := b })).flatMap elCells := by
  induction es with
  | nil => intro k hk; simp at hk
  | cons e es ih =>
    intro k hk
    cases k with
    | zero => simp [elCells]
    | succ k =>
      rw [List.flatMap_cons, List.set_append_right _ _ (by simp [elCells]; omega), List.modify_succ_cons, List.flatMap_cons]
      have e2 : (k + 1) * 6 + 3 - (elCells e).length = k * 6 + 3 := by simp [elCells]; omega
      rw [e2, ih k (by simpa using hk)]
theorem ER.mark {w : World} {B n ca g : Nat} {es : List El} (h : ER w B (.slice (some ⟨g, 0, none⟩) n ca) es) {k : Nat} (hk : k < es.length) (b : Bool) : ER (w.setCell ⟨g, k * 6 + 3, none⟩ (.bool b)) B (.slice (some ⟨g, 0, none⟩) n ca) (es.modify k (fun e => { e with marked := b })) := by
  have hl : (es.modify k (fun e => { e with marked := b })).length = es.length := by simp
  rcases h.2 with ⟨hv, hn⟩ | ⟨g', cap, cur, hv, hb, hg, hle, hm, hs, ht⟩
  · omega
  · cases hv
    refine ⟨by rw [flat_len 6 elCells elCells_len], .inr ⟨g, ca, cur.set! (k * 6 + 3) (.bool b), by rw [hl], hb, ?_, by rw [hl]; exact hle, hm, by simpa using hs, ?_⟩⟩
    · simp [World.setCell, Array.getElem?_modify, hg]
    · have h7 : cur.toList.length = ca * 6 := by rw [Array.length_toList, hs]
      have h8 := Nat.mul_le_mul_right 6 hle
      have h9 : (cur.toList.take (es.length * 6)).length = es.length * 6 := by rw [List.length_take]; omega
      rw [hl, ← modify_flat es b k hk, ← ht]
      apply List.ext_getElem?
      intro j
      by_cases hj : j < es.length * 6
      · rw [List.getElem?_take, List.getElem?_set, List.getElem?_take]
        simp only [Array.set!, Array.toList_setIfInBounds, List.getElem?_set, hj, if_true]
        by_cases he : k * 6 + 3 = j
        · subst he
          have h1 : k * 6 + 3 < cur.toList.length := by omega
          have h2 : k * 6 + 3 < (cur.toList.take (es.length * 6)).length := by omega
          rw [if_pos rfl, if_pos h1, if_pos rfl, if_pos h2]
        · rw [if_neg he, if_neg he]
      · rw [List.getElem?_eq_none (by rw [List.length_take]; omega), List.getElem?_eq_none (by rw [List.length_set]; omega)]
/-- The inserter at b: its stack's slice ve, its tokens' slice vo. -/
structure IS (w : World) (b : Nat) (ve vo : Value) (s : St) : Prop where
  blk : w.heap[b]? = some (.cells #[ve, .int .i64 s.written, vo, .bool s.exp, .string s.word] 42 (0, 0))
  els : ER w (b + 1) ve s.els
  out : TR w (b + 1) vo s.out
section
variable {w w' : World} {b : Nat} {ve vo : Value} {s : St}
theorem IS.lt (h : IS w b ve vo s) : b < w.heap.size := lt_of_block h.blk
theorem IS.c0 (h : IS w b ve vo s) : w.cell? ⟨b, 0, none⟩ = some ve := by have h' := h.blk; simp [World.cell?, h']
theorem IS.c1 (h : IS w b ve vo s) : w.cell? ⟨b, 1, none⟩ = some (.int .i64 s.written) := by have h' := h.blk; simp [World.cell?, h']
theorem IS.c2 (h : IS w b ve vo s) : w.cell? ⟨b, 2, none⟩ = some vo := by have h' := h.blk; simp [World.cell?, h']
theorem IS.c3 (h : IS w b ve vo s) : w.cell? ⟨b, 3, none⟩ = some (.bool s.exp) := by have h' := h.blk; simp [World.cell?, h']
theorem IS.c4 (h : IS w b ve vo s) : w.cell? ⟨b, 4, none⟩ = some (.string s.word) := by have h' := h.blk; simp [World.cell?, h']
theorem IS.fz (h : IS w b ve vo s) (k : Nat) : w.frozen? ⟨b, k, none⟩ = false := by have h' := h.blk; simp [World.frozen?, h']
theorem IS.keep (h : IS w b ve vo s) {K : Nat → Prop} (ho : Only K w w') (hb : ∀ i, b ≤ i → i < w.heap.size → ¬ K i) : IS w' b ve vo s :=
  ⟨(ho.block b h.lt (hb b (Nat.le_refl _) h.lt)).trans h.blk,
   rowKeep h.els (fun g hg => ho.block g (World.ownsRow.lt h.els g hg).2 (hb g (by have := (World.ownsRow.lt h.els g hg).1; omega) (World.ownsRow.lt h.els g hg).2)),
   rowKeep h.out (fun g hg => ho.block g (World.ownsRow.lt h.out g hg).2 (hb g (by have := (World.ownsRow.lt h.out g hg).1; omega) (World.ownsRow.lt h.out g hg).2))⟩
theorem IS.same (h : IS w b ve vo s) (ho : Only (fun _ => False) w w') : IS w' b ve vo s := h.keep ho (fun _ _ _ hc => hc)
theorem IS.elen (h : IS w b ve vo s) : ∃ oa ca, ve = .slice oa s.els.length ca := rowForm h.els
theorem IS.olen (h : IS w b ve vo s) : ∃ oa ca, vo = .slice oa s.out.length ca := rowForm h.out
/-- A cell of the inserter is written. -/
theorem IS.set {v : Value} {k : Nat} (h : IS w b ve vo s) {ve' vo' : Value} {s' : St} (hc : (#[ve, .int .i64 s.written, vo, .bool s.exp, .string s.word] : Array Value).set! k v = #[ve', .int .i64 s'.written, vo', .bool s'.exp, .string s'.word])
    (he : ER w (b + 1) ve' s'.els) (ho : TR w (b + 1) vo' s'.out) : IS (w.setCell ⟨b, k, none⟩ v) b ve' vo' s' := by
  have hO : Only (· = b) w (w.setCell ⟨b, k, none⟩ v) := Only.setCell (K := (· = b)) (Only.refl _ _) rfl v
  refine ⟨?_, he.only hO (fun g hg e => by have := (World.ownsRow.lt he g hg).1; omega), ho.only hO (fun g hg e => by have := (World.ownsRow.lt ho g hg).1; omega)⟩
  have h' := h.blk
  rw [← hc]
  simp [World.setCell, Array.getElem?_modify, h']
end
end Go.Proofs.Ythblchafjmgmbaa
