/-
  WALKS. The search in memory: rows of numbers, the graph, the search's block.
-/
import Derived.Test.YtijohaeiiidcpaaOwn
import Derived.Test.YtijohaeiiidcpaaGra4
namespace Go.Proofs.Ytijohaeiiidcpaa
open Go.RowKit Go.Maps
theorem infoInt : (Try.prog.info? 3).map (fun i => (i.zero, i.size, i.bytes)) = some (some (.int .i64 0), 1, 8) := by kernel_rfl
abbrev iV (k : Nat) : Value := .int .i64 (k : Int)
/-- A row of numbers of the call's own. -/
def IR (w : World) (B : Nat) (v : Value) (ns : List Nat) : Prop := w.ownsRow B 3 1 v ns.length (ns.map iV)
theorem IR.only {w w' : World} {B : Nat} {v : Value} {ns : List Nat} {K : Nat → Prop} (h : IR w B v ns) (ho : Only K w w') (hk : ∀ g, v.ownBlock = some g → ¬ K g) : IR w' B v ns :=
  rowKeep h (fun g hg => ho.block g ((World.ownsRow.lt h g hg).2) (hk g hg))
theorem IR.len {w : World} {B n ca : Nat} {oa : Option Addr} {ns : List Nat} (h : IR w B (.slice oa n ca) ns) : n = ns.length := by
  obtain ⟨oa', ca', hv⟩ := rowForm h
  cases hv; rfl
theorem IR.at {w : World} {B n ca : Nat} {oa : Option Addr} {ns : List Nat} (h : IR w B (.slice oa n ca) ns) {k : Nat} (hk : k < ns.length) : ∃ g, oa = some ⟨g, 0, none⟩ ∧ B ≤ g ∧ n = ns.length ∧ n ≤ ca ∧ w.cell? ⟨g, k, none⟩ = some (iV (gt ns k)) ∧ w.frozen? ⟨g, k, none⟩ = false := by
  rcases h.2 with ⟨hv, hn⟩ | ⟨g, cap, cur, hv, hb, hg, hle, hr⟩
  · omega
  · cases hv
    refine ⟨g, rfl, hb, rfl, hle, ?_, by simp [World.frozen?, hg]⟩
    have hc := World.ownsRow.cells h (g := g) rfl k (iV ns[k]) (by rw [List.getElem?_map, List.getElem?_eq_getElem hk]; rfl)
    rw [add_plain, Nat.zero_add] at hc
    rw [gt_at hk]
    exact hc
theorem IR.snoc {w : World} {B : Nat} {v : Value} {ns : List Nat} {k : Nat} (h : w.ownsRow B 3 1 v (ns.length + 1) (ns.map iV ++ [iV k])) : IR w B v (ns ++ [k]) := by
  unfold IR
  rw [List.length_append, List.map_append]
  simpa using h
theorem IR.set {w : World} {B n ca g : Nat} {ns : List Nat} (h : IR w B (.slice (some ⟨g, 0, none⟩) n ca) ns) {j : Nat} (hj : j < ns.length) (v : Nat) : IR (w.setCell ⟨g, j, none⟩ (iV v)) B (.slice (some ⟨g, 0, none⟩) n ca) (ns.set j v) := by
  have hn := h.len
  subst hn
  have := row_set h (j := j) (by omega) (iV v)
  unfold IR
  rw [List.length_set, List.map_set]
  exact this
theorem IR.cut {w : World} {B n ca : Nat} {oa : Option Addr} {ns : List Nat} (h : IR w B (.slice oa n ca) ns) {k : Nat} (hk : k ≤ ns.length) : IR w B (.slice oa k ca) (ns.take k) := by
  have hl : (ns.take k).length = k := by rw [List.length_take]; omega
  rcases h.2 with ⟨hv, hn⟩ | ⟨g, cap, cur, hv, hb, hg, hle, hm, hs, ht⟩
  · cases hv
    have h0 : ns = [] := List.length_eq_zero_iff.1 hn
    subst h0
    have hk0 : k = 0 := by simpa using hk
    subst hk0
    exact World.ownsRow_nil _ _ _ _
  · cases hv
    refine ⟨by rw [List.length_map]; omega, .inr ⟨g, ca, cur, by rw [hl], hb, hg, by rw [hl]; omega, hm, hs, ?_⟩⟩
    rw [hl]
    have h1 : cur.toList.take (k * 1) = (cur.toList.take (ns.length * 1)).take (k * 1) := by rw [List.take_take]; congr 1; omega
    rw [h1, ht, ← List.map_take, Nat.mul_one]
theorem one_int (k : Nat) : ∀ u ∈ [iV k], u.oneCell' = true := by
  intro u hu
  rw [List.mem_singleton.1 hu]
  rfl
/-- A slice of numbers, read. -/
structure Ints (w : World) (oa : Option Addr) (n : Nat) (l : List Nat) : Prop where
  len : l.length = n
  cell : ∀ k, k < l.length → ∃ b o, oa = some ⟨b, o, none⟩ ∧ w.cell? ⟨b, o + k, none⟩ = some (iV (gt l k))
/-- A graph, read. -/
structure Edg (w : World) (oa : Option Addr) (n : Nat) (G : List (List Nat)) : Prop where
  len : G.length = n
  cell : ∀ k (hk : k < G.length), ∃ b o ra rn rc, oa = some ⟨b, o, none⟩ ∧ w.cell? ⟨b, o + k, none⟩ = some (.slice ra rn rc) ∧ Ints w ra rn G[k]
theorem Ints.old {w w' : World} {oa : Option Addr} {n : Nat} {l : List Nat} {K : Nat → Prop} (h : Ints w oa n l) (ho : Only K w w') (hk : ∀ i, i < w.heap.size → ¬ K i) : Ints w' oa n l :=
  ⟨h.len, fun k hl => by
    obtain ⟨b, o, e, hc⟩ := h.cell k hl
    have hb := cell_lt hc
    exact ⟨b, o, e, (World.cell?_of_block (ho.block b hb (hk b hb))).trans hc⟩⟩
theorem Edg.old {w w' : World} {oa : Option Addr} {n : Nat} {G : List (List Nat)} {K : Nat → Prop} (h : Edg w oa n G) (ho : Only K w w') (hk : ∀ i, i < w.heap.size → ¬ K i) : Edg w' oa n G :=
  ⟨h.len, fun k hl => by
    obtain ⟨b, o, ra, rn, rc, e, hc, hi⟩ := h.cell k hl
    have hb := cell_lt hc
    exact ⟨b, o, ra, rn, rc, e, (World.cell?_of_block (ho.block b hb (hk b hb))).trans hc, hi.old ho hk⟩⟩
def dat (s : SS) : Nat → List Nat
  | 0 => s.place
  | 1 => s.lowest
  | 2 => s.looked
  | 3 => s.number
  | 4 => s.path
  | _ => s.opn
/-- The search at b: its rows are r 0 to r 5. -/
structure SM (w : World) (B b : Nat) (vE : Value) (r : Nat → Value) (s : SS) : Prop where
  blk : w.heap[b]? = some (.cells #[vE, r 0, r 1, r 2, r 3, r 4, r 5, .int .i64 s.found, .int .i64 s.last] 71 (0, 0))
  low : B ≤ b
  row : ∀ i, i < 6 → IR w B (r i) (dat s i)
  dis : ∀ i j, i < 6 → j < 6 → i ≠ j → ∀ g, (r i).ownBlock = some g → (r j).ownBlock ≠ some g
/-- A block of numbers of the call's own. -/
def IsI (w : World) (B i : Nat) : Prop := B ≤ i ∧ ∃ cs m, w.heap[i]? = some (.cells cs 3 m)
/-- What the search writes: its block, and blocks of numbers. -/
def KG (w : World) (B b i : Nat) : Prop := i = b ∨ IsI w B i
abbrev FG (B b : Nat) (w w' : World) : Prop := Only (KG w B b) w w'
theorem FG.trans {B b : Nat} {w w1 w2 : World} (h : FG B b w w1) (k : FG B b w1 w2) : FG B b w w2 :=
  h.then k (fun i hi => by
    rcases hi with hi | ⟨hB, cs, m, hi⟩
    · exact .inl (.inl hi)
    · rcases Nat.lt_or_ge i w.heap.size with hl | hl
      · left
        apply Classical.byContradiction
        intro hn
        have := h.block i hl hn
        rw [this] at hi
        exact hn (.inr ⟨hB, cs, m, hi⟩)
      · exact .inr hl)
theorem FG.keep {B b : Nat} {w w' : World} (h : Only (fun _ => False) w w') : FG B b w w' := h.lift
theorem FG.low {B b : Nat} {w w' : World} (h : FG B b w w') (hb : B ≤ b) : Only (B ≤ ·) w w' := h.wide (fun i hi => hi.elim (fun e => by show B ≤ i; omega) (fun e => e.1))
section
variable {w w' : World} {B b : Nat} {vE : Value} {r : Nat → Value} {s : SS}
theorem SM.lt (h : SM w B b vE r s) : b < w.heap.size := lt_of_block h.blk
theorem SM.fz (h : SM w B b vE r s) (k : Nat) : w.frozen? ⟨b, k, none⟩ = false := by have h' := h.blk; simp [World.frozen?, h']
theorem SM.c0 (h : SM w B b vE r s) : w.cell? ⟨b, 0, none⟩ = some vE := (blk_c h.blk rfl).1
theorem SM.cr (h : SM w B b vE r s) {i : Nat} (hi : i < 6) : w.cell? ⟨b, i + 1, none⟩ = some (r i) := by
  match i, hi with
  | 0, _ => exact (blk_c h.blk rfl).1
  | 1, _ => exact (blk_c h.blk rfl).1
  | 2, _ => exact (blk_c h.blk rfl).1
  | 3, _ => exact (blk_c h.blk rfl).1
  | 4, _ => exact (blk_c h.blk rfl).1
  | 5, _ => exact (blk_c h.blk rfl).1
theorem SM.c7 (h : SM w B b vE r s) : w.cell? ⟨b, 7, none⟩ = some (.int .i64 s.found) := (blk_c h.blk rfl).1
theorem SM.c8 (h : SM w B b vE r s) : w.cell? ⟨b, 8, none⟩ = some (.int .i64 s.last) := (blk_c h.blk rfl).1
theorem SM.ne (h : SM w B b vE r s) {i : Nat} (hi : i < 6) {g : Nat} (hg : (r i).ownBlock = some g) : ¬ g = b := by
  intro e
  subst e
  rcases (h.row i hi).2 with ⟨hv, -⟩ | ⟨g', cap, cur, hv, -, hb', -⟩
  · rw [hv] at hg; cases hg
  · rw [hv] at hg
    cases hg
    rw [h.blk] at hb'
    have := (Obj.cells.inj (Option.some.inj hb')).2.1
    exact absurd this (by decide)
theorem SM.isI (h : SM w B b vE r s) {i : Nat} (hi : i < 6) {g : Nat} (hg : (r i).ownBlock = some g) : IsI w B g := by
  rcases (h.row i hi).2 with ⟨hv, -⟩ | ⟨g', cap, cur, hv, hB, hb', -⟩
  · rw [hv] at hg; cases hg
  · rw [hv] at hg
    cases hg
    exact ⟨hB, _, _, hb'⟩
theorem SM.same (h : SM w B b vE r s) (ho : Only (fun _ => False) w w') : SM w' B b vE r s :=
  ⟨(ho.block b h.lt (fun hc => hc)).trans h.blk, h.low, fun i hi => (h.row i hi).only ho (fun _ _ hc => hc), h.dis⟩
/-- A number of one of the rows is written. -/
theorem SM.put (h : SM w B b vE r s) {i : Nat} (hi : i < 6) {g n ca : Nat} (hr : r i = .slice (some ⟨g, 0, none⟩) n ca) {j : Nat} (hj : j < (dat s i).length) (v : Nat) {s' : SS} (hf : s'.found = s.found) (hl : s'.last = s.last)
    (hd : dat s' i = (dat s i).set j v) (ho : ∀ k, k < 6 → k ≠ i → dat s' k = dat s k) : SM (w.setCell ⟨g, j, none⟩ (iV v)) B b vE r s' := by
  have hg : (r i).ownBlock = some g := by rw [hr]; rfl
  have hne := h.ne hi hg
  have hO : Only (· = g) w (w.setCell ⟨g, j, none⟩ (iV v)) := Only.setCell (K := (· = g)) (Only.refl _ _) rfl _
  refine ⟨?_, h.low, fun k hk => ?_, h.dis⟩
  · rw [hf, hl]
    exact (hO.block b h.lt (fun e => hne e.symm)).trans h.blk
  · by_cases e : k = i
    · subst e
      have := h.row k hk
      rw [hr] at this ⊢
      rw [hd]
      exact this.set hj v
    · rw [ho k hk e]
      exact (h.row k hk).only hO (fun g' hg' e' => h.dis k i hk hi e g' hg' (by rw [e']; exact hg))
theorem SM.putF (h : SM w B b vE r s) {i : Nat} (hi : i < 6) {g n ca : Nat} (hr : r i = .slice (some ⟨g, 0, none⟩) n ca) (j : Nat) (v : Value) : FG B b w (w.setCell ⟨g, j, none⟩ v) :=
  Only.setCell (Only.refl _ _) (.inr (h.isI hi (by rw [hr]; rfl))) _
/-- A number of the search's block is written. -/
theorem SM.numF (h : SM w B b vE r s) (k : Nat) : SM (w.setCell ⟨b, 7, none⟩ (iV k)) B b vE r { s with found := k } := by
  have hO : Only (· = b) w (w.setCell ⟨b, 7, none⟩ (iV k)) := Only.setCell (K := (· = b)) (Only.refl _ _) rfl _
  have h' := h.blk
  refine ⟨by simp [World.setCell, Array.getElem?_modify, h'], h.low, fun i hi => ?_, h.dis⟩
  have h2 := (h.row i hi).only hO (fun g hg e => h.ne hi hg e)
  match i, hi with
  | 0, _ => exact h2
  | 1, _ => exact h2
  | 2, _ => exact h2
  | 3, _ => exact h2
  | 4, _ => exact h2
  | 5, _ => exact h2
theorem SM.numL (h : SM w B b vE r s) (k : Nat) : SM (w.setCell ⟨b, 8, none⟩ (iV k)) B b vE r { s with last := k } := by
  have hO : Only (· = b) w (w.setCell ⟨b, 8, none⟩ (iV k)) := Only.setCell (K := (· = b)) (Only.refl _ _) rfl _
  have h' := h.blk
  refine ⟨by simp [World.setCell, Array.getElem?_modify, h'], h.low, fun i hi => ?_, h.dis⟩
  have h2 := (h.row i hi).only hO (fun g hg e => h.ne hi hg e)
  match i, hi with
  | 0, _ => exact h2
  | 1, _ => exact h2
  | 2, _ => exact h2
  | 3, _ => exact h2
  | 4, _ => exact h2
  | 5, _ => exact h2
theorem FG.blk (w : World) (B b k : Nat) (v : Value) : FG B b w (w.setCell ⟨b, k, none⟩ v) := Only.setCell (Only.refl _ _) (.inl rfl) _
end
end Go.Proofs.Ytijohaeiiidcpaa
