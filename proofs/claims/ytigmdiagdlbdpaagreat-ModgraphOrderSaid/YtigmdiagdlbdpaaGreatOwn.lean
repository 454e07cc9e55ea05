/-
  WALKS. What a call leaves alone; rows; small laws of the walk (of no program).
-/
import Derived.Test.YtigmdiagdlbdpaaGreatProg
import Derived.WalkKit
import Derived.LoopN
import Derived.Lib.Hide
import Derived.WalkSpells
import Derived.WalkLawsBesides
import Derived.OneCell
import Derived.OwnWalk
import Derived.RegionTactic
import Derived.ChangeAlike
import Derived.Maps.AppendAt
import Derived.Laws.Cells
import Derived.Laws.StructEq
import Derived.Deep.LoopGhost
import Derived.Deep.RegionWith
import Derived.Deep.AppendLies
import Derived.Deep.RegionLaw
import Derived.Deep.QuietTactic
import Derived.BigQuiet
import Derived.IntWalk
import Derived.StillTailTactics
namespace Go.Proofs.YtigmdiagdlbdpaaGreat
open Go.RowKit Go.Maps
theorem ret_bool {a b : Bool} (h : a = b) : Ending.returned (.bool a) = Ending.returned (.bool b) := by rw [h]
theorem ret_int {k : IntKind} {a b : Int} (h : a = b) : Ending.returned (.int k a) = Ending.returned (.int k b) := by rw [h]
theorem cell_lt {w : World} {b o : Nat} {v : Value} (h : w.cell? ⟨b, o, none⟩ = some v) : b < w.heap.size := by
  by_cases hl : b < w.heap.size
  · exact hl
  · have : w.heap[b]? = none := Array.getElem?_eq_none (by omega)
    simp [World.cell?, this] at h
theorem new_block (w : World) (o : Obj) : (w.alloc o).heap[w.heap.size]? = some o := by
  show (w.heap.push o)[w.heap.size]? = _
  simp
/-- w' is w but for the blocks that K names, and new ones. -/
structure Only (K : Nat → Prop) (w w' : World) : Prop where
  os : w'.os = w.os
  tape : w'.tape = w.tape
  output : w'.output = w.output
  size : w.heap.size ≤ w'.heap.size
  block : ∀ k, k < w.heap.size → ¬ K k → w'.heap[k]? = w.heap[k]?
theorem Only.refl (K : Nat → Prop) (w : World) : Only K w w := ⟨rfl, rfl, rfl, Nat.le_refl _, fun _ _ _ => rfl⟩
theorem Only.trans {K : Nat → Prop} {a b c : World} (h : Only K a b) (k : Only K b c) : Only K a c :=
  ⟨k.os.trans h.os, k.tape.trans h.tape, k.output.trans h.output, Nat.le_trans h.size k.size, fun i hi hk => (k.block i (Nat.lt_of_lt_of_le hi h.size) hk).trans (h.block i hi hk)⟩
theorem Only.wide {K K' : Nat → Prop} {a b : World} (h : Only K a b) (hk : ∀ i, K i → K' i) : Only K' a b :=
  ⟨h.os, h.tape, h.output, h.size, fun i hi hn => h.block i hi (fun hc => hn (hk i hc))⟩
theorem Only.lift {K : Nat → Prop} {a b : World} (h : Only (fun _ => False) a b) : Only K a b := h.wide (fun _ hc => hc.elim)
theorem Only.of_below {K : Nat → Prop} {a b : World} (h : Below a.heap.size a b) : Only K a b := ⟨h.os, h.tape, h.output, h.size, fun i hi _ => h.block i hi⟩
theorem Only.below {K : Nat → Prop} {a b : World} {B : Nat} (h : Only K a b) (hB : B ≤ a.heap.size) (hk : ∀ i, K i → B ≤ i) : Below B a b :=
  ⟨h.os, h.tape, h.output, h.size, fun i hi => h.block i (by omega) (fun hc => by have := hk i hc; omega)⟩
theorem Only.setCell {K : Nat → Prop} {w w' : World} (h : Only K w w') {b k : Nat} (hb : K b) (v : Value) : Only K w (w'.setCell ⟨b, k, none⟩ v) :=
  ⟨h.os, h.tape, h.output, by have := h.size; simpa [World.setCell] using this, fun i hi hn => by rw [Below.heap_setCell _ _ _ _ (fun e => hn (by rw [e]; exact hb))]; exact h.block i hi hn⟩
theorem Only.drew {K : Nat → Prop} {w w' : World} (h : Only K w w') : Only K w w'.drew := ⟨h.os, h.tape, h.output, h.size, h.block⟩
theorem Only.alloc {K : Nat → Prop} {w w' : World} (h : Only K w w') (o : Obj) : Only K w (w'.alloc o) :=
  h.trans (Only.of_below ((Below.refl _ _).alloc (Nat.le_refl _) o))
theorem Only.grown {w w' : World} {K : Nat → Prop} {row : Option Nat} (hg : w.grownBy w' row) (hk : ∀ g, row = some g → K g) : Only K w w' :=
  ⟨hg.os, hg.tape, hg.output, hg.size, fun i hi hn => hg.block i hi (fun e => hn (hk i e.symm))⟩
/-- A cell of a new block is written. -/
theorem Only.setNew {K : Nat → Prop} {w w' : World} (h : Only K w w') {b k : Nat} (hb : w.heap.size ≤ b) (v : Value) : Only K w (w'.setCell ⟨b, k, none⟩ v) :=
  ⟨h.os, h.tape, h.output, by have := h.size; simpa [World.setCell] using this, fun i hi hn => by rw [Below.heap_setCell _ _ _ _ (fun e => by have : i = b := e; omega)]; exact h.block i hi hn⟩
/-- What touches beside K new blocks alone. -/
theorem Only.then {K K' : Nat → Prop} {a b c : World} (h : Only K a b) (k : Only K' b c) (hk : ∀ i, K' i → K i ∨ a.heap.size ≤ i) : Only K a c :=
  ⟨k.os.trans h.os, k.tape.trans h.tape, k.output.trans h.output, Nat.le_trans h.size k.size, fun i hi hn => (k.block i (Nat.lt_of_lt_of_le hi h.size) (fun hc => (hk i hc).elim hn (fun hl => by omega))).trans (h.block i hi hn)⟩
theorem rowKeep {w w' : World} {B n size : Nat} {e : TypeId} {v : Value} {xs : List Value} (h : w.ownsRow B e size v n xs) (hb : ∀ g, v.ownBlock = some g → w'.heap[g]? = w.heap[g]?) : w'.ownsRow B e size v n xs := by
  obtain ⟨h1, h2⟩ := h
  refine ⟨h1, ?_⟩
  rcases h2 with hn | ⟨g, cap, cur, hv, hB, hg, hr⟩
  · exact .inl hn
  · refine .inr ⟨g, cap, cur, hv, hB, ?_, hr⟩
    rw [hb g (by rw [hv]; rfl)]; exact hg
theorem rowForm {w : World} {B n size : Nat} {e : TypeId} {v : Value} {xs : List Value} (h : w.ownsRow B e size v n xs) : ∃ oa ca, v = .slice oa n ca := by
  rcases h.2 with ⟨hv, hn⟩ | ⟨g, cap, cur, hv, -⟩
  · exact ⟨none, 0, by rw [hn]; exact hv⟩
  · exact ⟨some ⟨g, 0, none⟩, cap, hv⟩
/-- Two rows of different types lie apart. -/
theorem rowApart {w : World} {B B' n n' size size' : Nat} {e e' : TypeId} {v v' : Value} {xs xs' : List Value} (h : w.ownsRow B e size v n xs) (h' : w.ownsRow B' e' size' v' n' xs') (hne : e ≠ e') {g : Nat} (hg : v.ownBlock = some g) : v'.ownBlock ≠ some g := by
  intro hg'
  rcases h.2 with ⟨hv, -⟩ | ⟨g1, cap, cur, hv, -, hb, -⟩
  · rw [hv] at hg; cases hg
  rcases h'.2 with ⟨hv', -⟩ | ⟨g2, cap', cur', hv', -, hb', -⟩
  · rw [hv'] at hg'; cases hg'
  rw [hv] at hg
  rw [hv'] at hg'
  cases hg
  cases hg'
  rw [hb] at hb'
  cases hb'
  exact hne rfl
theorem add_plain (b k j : Nat) : (⟨b, k, none⟩ : Addr).add j = ⟨b, k + j, none⟩ := by
  unfold Addr.add; split <;> simp_all
theorem new_at {w : World} {n : Nat} (o : Obj) (h : w.heap.size = n) : (w.alloc o).heap[n]? = some o := by subst h; exact new_block _ _
theorem blk_c {w : World} {b : Nat} {cs : Array Value} {t : TypeId} {k : Nat} {v : Value} (h : w.heap[b]? = some (.cells cs t (0, 0))) (hk : cs[k]? = some v) : w.cell? ⟨b, k, none⟩ = some v ∧ w.frozen? ⟨b, k, none⟩ = false := by
  constructor
  · simp [World.cell?, h, hk]
  · simp [World.frozen?, h]
theorem only_drewN {K : Nat → Prop} (w : World) (n : Nat) : Only K w (w.drewN n) := ⟨rfl, rfl, rfl, Nat.le_refl _, fun _ _ _ => rfl⟩
theorem take_set {α : Type} (l : List α) (j m : Nat) (v : α) (hj : j < m) : (l.set j v).take m = (l.take m).set j v := by
  apply List.ext_getElem?
  intro i
  by_cases hi : i < m
  · rw [List.getElem?_take, List.getElem?_set, List.getElem?_set, List.getElem?_take, List.length_take]
    simp only [hi, if_true]
    by_cases he : j = i
    · subst he
      by_cases hl : j < l.length
      · rw [if_pos rfl, if_pos hl, if_pos rfl, if_pos (by omega)]
      · rw [if_pos rfl, if_neg hl, if_pos rfl, if_neg (by omega)]
    · rw [if_neg he, if_neg he]
  · rw [List.getElem?_eq_none (by rw [List.length_take]; omega), List.getElem?_eq_none (by rw [List.length_set, List.length_take]; omega)]
/-- A cell of a row is written: the row's cells are. -/
theorem row_set {w : World} {B n ca g size : Nat} {e : TypeId} {xs : List Value} (h : w.ownsRow B e size (.slice (some ⟨g, 0, none⟩) n ca) n xs) {j : Nat} (hj : j < n * size) (v : Value) : (w.setCell ⟨g, j, none⟩ v).ownsRow B e size (.slice (some ⟨g, 0, none⟩) n ca) n (xs.set j v) := by
  obtain ⟨h1, h2⟩ := h
  rcases h2 with ⟨hv, -⟩ | ⟨g', cap, cur, hv, hb, hg, hle, hm, hs, ht⟩
  · cases hv
  · cases hv
    refine ⟨by rw [List.length_set]; exact h1, .inr ⟨g, ca, cur.set! j v, rfl, hb, ?_, hle, hm, by simpa using hs, ?_⟩⟩
    · simp [World.setCell, Array.getElem?_modify, hg]
    · rw [← ht]
      simp only [Array.set!, Array.toList_setIfInBounds]
      exact take_set cur.toList j (n * size) v hj
/-- The rest of a walk from a world of which only what is said is known. -/
theorem gen_world {P : Program} {c : Code} {Q : Exit → Act → World → Prop} {a : Act} {W : World} (Φ : World → Prop) (h : Φ W) (k : ∀ wx, Φ wx → Code.wp P c Q a wx) : Code.wp P c Q a W := k W h
theorem still_tail_w {P : Program} {id : Nat} {Q : Exit → Act → World → Prop} {a : Act} {w : World} {l : List Oper} (n : Nat) (hm : P.follows .mixedOrders = true) (hB : Region.lexTailB .any l.toArray n = true) (Φ : World → Prop) (hΦ : Φ w.drew)
    (h : ∀ wd, Φ wd → wpStill P l.toArray wd (fun a' => wpList P l.toArray Q (l.drop n) a' wd) (l.take n) a) : (Code.region id l.toArray true).wp P Q a w := wp_region_still_tail n hm hB (h _ hΦ)
theorem wpStill_skip {P : Program} {ops : Array Oper} {w : World} {Q : Act → Prop} {a : Act} {o : Oper} {rest : List Oper} (hw : Region.wanted o (yielded ops a.tmps) = false) (h : wpStill P ops w Q rest (a.put o.dst undef)) : wpStill P ops w Q (o :: rest) a :=
  wpStill_step (fun K hK => by rw [hw]; exact hK _ h)
theorem still_val {P : Program} {ops : Array Oper} {w : World} {Q : Act → Prop} {a : Act} {o : Oper} {rest : List Oper} (v : Value) (hw : Region.wanted o (yielded ops a.tmps) = true) (hv : (execOp a.eval o).run P w = .ok (.value v) w) (h : wpStill P ops w Q rest (a.put o.dst v)) : wpStill P ops w Q (o :: rest) a := by
  unfold wpStill
  rw [if_pos hw]
  unfold Oper.still
  rw [hv, Oper.stillUpon_value]
  exact h
/-- A goal behind a structure: nothing looks into it. -/
structure Cover (p : Prop) : Prop where
  out : p
theorem hid_go {p : Prop} (h : Cover p) : p := h.out
theorem hid_val {P : Program} {ops : Array Oper} {w : World} {Q : Act → Prop} {a : Act} {o : Oper} {rest : List Oper} (v : Value) (hw : Region.wanted o (yielded ops a.tmps) = true) (hv : (execOp a.eval o).run P w = .ok (.value v) w) (h : Cover (wpStill P ops w Q rest (a.put o.dst v))) : Cover (wpStill P ops w Q (o :: rest) a) := Cover.mk (still_val v hw hv h.out)
theorem hid_skip {P : Program} {ops : Array Oper} {w : World} {Q : Act → Prop} {a : Act} {o : Oper} {rest : List Oper} (hw : Region.wanted o (yielded ops a.tmps) = false) (h : Cover (wpStill P ops w Q rest (a.put o.dst undef))) : Cover (wpStill P ops w Q (o :: rest) a) := Cover.mk (wpStill_skip hw h.out)
theorem hid_nil {P : Program} {ops : Array Oper} {w : World} {Q : Act → Prop} {a : Act} (h : Q a) : Cover (wpStill P ops w Q [] a) := Cover.mk (wpStill_nil h)
theorem hid_valN {P : Program} {ops : Array Oper} {w : World} {Q : Act → Prop} {a : Act} {o : Oper} {rest : List Oper} (v : Value) (hw : Region.wanted o (yielded ops a.tmps) = true) (hv : (execOp a.eval o).run P w = .ok (.value v) w) (h : ∀ a', a.put o.dst v = a' → Cover (wpStill P ops w Q rest a')) : Cover (wpStill P ops w Q (o :: rest) a) := hid_val v hw hv (h _ rfl)
theorem hid_skipN {P : Program} {ops : Array Oper} {w : World} {Q : Act → Prop} {a : Act} {o : Oper} {rest : List Oper} (hw : Region.wanted o (yielded ops a.tmps) = false) (h : ∀ a', a.put o.dst undef = a' → Cover (wpStill P ops w Q rest a')) : Cover (wpStill P ops w Q (o :: rest) a) := hid_skip hw (h _ rfl)
theorem rowMono {w : World} {B B' n size : Nat} {e : TypeId} {v : Value} {xs : List Value} (h : w.ownsRow B e size v n xs) (hb : B' ≤ B) : w.ownsRow B' e size v n xs := by
  obtain ⟨h1, h2⟩ := h
  refine ⟨h1, ?_⟩
  rcases h2 with hn | ⟨g, cap, cur, hv, hB, hg, hr⟩
  · exact .inl hn
  · exact .inr ⟨g, cap, cur, hv, Nat.le_trans hb hB, hg, hr⟩
theorem gen_exit {K : Act → World → Prop} {Q : Exit → Act → World → Prop} {e : Exit} {a : Act} {W : World} (Φ : World → Prop) (h : Φ W) (k : ∀ wx, Φ wx → Exit.then K Q e a wx) : Exit.then K Q e a W := k W h
end Go.Proofs.YtigmdiagdlbdpaaGreat
