/-
  WALKS. The search in memory: rows of numbers, the graph, the search's block.
  WALKS. The search: enter, end.
  WALKS. The search: enter.
  WA67S. The search: look.
  WALKS. The search: leave.
-/
import Derived.Test.YtigmdiagdlbdpaaGreatOwn
import Derived.Test.YtigmdiagdlbdpaaGreatGra
namespace Go.Proofs.YtigmdiagdlbdpaaGreat
open Go.RowKit Go.Maps
theorem infoInt : (Tryz.prog.info? 3).map (fun i => (i.zero, i.size, i.bytes)) = some (some (.int .i64 0), 1, 8) := by kernel_rfl
abbrev iV (k : Nat) : Value := .int .i64 (k : Int)
/-- A row of numbers of the call's own. -/
def IR (w : World) (B : Nat) (v : Value) (ns : List Nat) : Prop := w.ownsRow B 3 1 v ns.length (ns.map iV)
theorem IR.only {w w' : World} {B : Nat} {v : Value} {ns : List Nat} {K : Nat → Prop} (h : IR w B v ns) (ho : Only K w w') (hk : ∀ g, v.ownBlock = some g → ¬ K g) : IR w' B v ns :=
  rowKeep h (fun g hg => ho.block g ((World.ownsRow.lt h g hg).2) (hk g hg))
theorem IR.len {w : World} {B n ca : Nat} {oa : Option Addr} {ns : List Nat} (h : IR w B (.slice oa n ca) ns) : n = ns.length := by
  obtain ⟨oa', ca', hv⟩ := rowForm h
  cases hv; rfl
theorem IR.at {w : World} {B n ca : Nat} {oa : Option Addr} {ns : List Nat} (h : IR w B (.slice oa n ca) ns) {k : Nat} (hk : k < ns.length) : ∃ g, oa = some ⟨g, 0, none⟩ ∧ B ≤ g ∧ n = ns.length ∧ n ≤ ca ∧ w.cell? ⟨g, k, none⟩ = some (iV (gt ns k)) ∧ w.frozen? ⟨g, k, none⟩ = false := by
  rcases h.2 with ⟨hv, hn⟩ | ⟨g, cap, cur, hv, hb, hg, hle, hr⟩
  · omega
  · cases hv
    refine ⟨g, rfl, hb, rfl, hle, ?_, by simp [World.frozen?, hg]⟩
    have hc := World.ownsRow.cells h (g := g) rfl k (iV ns[k]) (by rw [List.getElem?_map, List.getElem?_eq_getElem hk]; rfl)
    rw [add_plain, Nat.zero_add] at hc
    rw [gt_at hk]
    exact hc
theorem IR.snoc {w : World} {B : Nat} {v : Value} {ns : List Nat} {k : Nat} (h : w.ownsRow B 3 1 v (ns.length + 1) (ns.map iV ++ [iV k])) : IR w B v (ns ++ [k]) := by
  unfold IR
  rw [List.length_append, List.map_append]
  simpa using h
theorem IR.set {w : World} {B n ca g : Nat} {ns : List Nat} (h : IR w B (.slice (some ⟨g, 0, none⟩) n ca) ns) {j : Nat} (hj : j < ns.length) (v : Nat) : IR (w.setCell ⟨g, j, none⟩ (iV v)) B (.slice (some ⟨g, 0, none⟩) n ca) (ns.set j v) := by
  have hn := h.len
  subst hn
  have := row_set h (j := j) (by omega) (iV v)
  unfold IR
  rw [List.length_set, List.map_set]
  exact this
theorem IR.cut {w : World} {B n ca : Nat} {oa : Option Addr} {ns : List Nat} (h : IR w B (.slice oa n ca) ns) {k : Nat} (hk : k ≤ ns.length) : IR w B (.slice oa k ca) (ns.take k) := by
  have hl : (ns.take k).length = k := by rw [List.length_take]; omega
  rcases h.2 with ⟨hv, hn⟩ | ⟨g, cap, cur, hv, hb, hg, hle, hm, hs, ht⟩
  · cases hv
    have h0 : ns = [] := List.length_eq_zero_iff.1 hn
    subst h0
    have hk0 : k = 0 := by simpa using hk
    subst hk0
    exact World.ownsRow_nil _ _ _ _
  · cases hv
    refine ⟨by rw [List.length_map]; omega, .inr ⟨g, ca, cur, by rw [hl], hb, hg, by rw [hl]; omega, hm, hs, ?_⟩⟩
    rw [hl]
    have h1 : cur.toList.take (k * 1) = (cur.toList.take (ns.length * 1)).take (k * 1) := by rw [List.take_take]; congr 1; omega
    rw [h1, ht, ← List.map_take, Nat.mul_one]
theorem one_int (k : Nat) : ∀ u ∈ [iV k], u.oneCell' = true := by
  intro u hu
  rw [List.mem_singleton.1 hu]
  rfl
/-- A slice of numbers, read. -/
structure Ints (w : World) (oa : Option Addr) (n : Nat) (l : List Nat) : Prop where
  len : l.length = n
  cell : ∀ k, k < l.length → ∃ b o, oa = some ⟨b, o, none⟩ ∧ w.cell? ⟨b, o + k, none⟩ = some (iV (gt l k))
/-- A graph, read. -/
structure Edg (w : World) (oa : Option Addr) (n : Nat) (G : List (List Nat)) : Prop where
  len : G.length = n
  cell : ∀ k (hk : k < G.length), ∃ b o ra rn rc, oa = some ⟨b, o, none⟩ ∧ w.cell? ⟨b, o + k, none⟩ = some (.slice ra rn rc) ∧ Ints w ra rn G[k]
theorem Ints.old {w w' : World} {oa : Option Addr} {n : Nat} {l : List Nat} {K : Nat → Prop} (h : Ints w oa n l) (ho : Only K w w') (hk : ∀ i, i < w.heap.size → ¬ K i) : Ints w' oa n l :=
  ⟨h.len, fun k hl => by
    obtain ⟨b, o, e, hc⟩ := h.cell k hl
    have hb := cell_lt hc
    exact ⟨b, o, e, (World.cell?_of_block (ho.block b hb (hk b hb))).trans hc⟩⟩
theorem Edg.old {w w' : World} {oa : Option Addr} {n : Nat} {G : List (List Nat)} {K : Nat → Prop} (h : Edg w oa n G) (ho : Only K w w') (hk : ∀ i, i < w.heap.size → ¬ K i) : Edg w' oa n G :=
  ⟨h.len, fun k hl => by
    obtain ⟨b, o, ra, rn, rc, e, hc, hi⟩ := h.cell k hl
    have hb := cell_lt hc
    exact ⟨b, o, ra, rn, rc, e, (World.cell?_of_block (ho.block b hb (hk b hb))).trans hc, hi.old ho hk⟩⟩
def dat (s : SS) : Nat → List Nat
  | 0 => s.place
  | 1 => s.lowest
  | 2 => s.looked
  | 3 => s.number
  | 4 => s.path
  | _ => s.opn
/-- The search at b: its rows are r 0 to r 5. -/
structure SM (w : World) (B b : Nat) (vE : Value) (r : Nat → Value) (s : SS) : Prop where
  blk : w.heap[b]? = some (.cells #[vE, r 0, r 1, r 2, r 3, r 4, r 5, .int .i64 s.found, .int .i64 s.last] 99 (0, 0))
  low : B ≤ b
  row : ∀ i, i < 6 → IR w B (r i) (dat s i)
  dis : ∀ i j, i < 6 → j < 6 → i ≠ j → ∀ g, (r i).ownBlock = some g → (r j).ownBlock ≠ some g
/-- A block of numbers of the call's own. -/
def IsI (w : World) (B i : Nat) : Prop := B ≤ i ∧ ∃ cs m, w.heap[i]? = some (.cells cs 3 m)
/-- What the search writes: its block, and blocks of numbers. -/
def KG (w : World) (B b i : Nat) : Prop := i = b ∨ IsI w B i
abbrev FG (B b : Nat) (w w' : World) : Prop := Only (KG w B b) w w'
theorem FG.trans {B b : Nat} {w w1 w2 : World} (h : FG B b w w1) (k : FG B b w1 w2) : FG B b w w2 :=
  h.then k (fun i hi => by
    rcases hi with hi | ⟨hB, cs, m, hi⟩
    · exact .inl (.inl hi)
    · rcases Nat.lt_or_ge i w.heap.size with hl | hl
      · left
        apply Classical.byContradiction
        intro hn
        have := h.block i hl hn
        rw [this] at hi
        exact hn (.inr ⟨hB, cs, m, hi⟩)
      · exact .inr hl)
theorem FG.keep {B b : Nat} {w w' : World} (h : Only (fun _ => False) w w') : FG B b w w' := h.lift
theorem FG.low {B b : Nat} {w w' : World} (h : FG B b w w') (hb : B ≤ b) : Only (B ≤ ·) w w' := h.wide (fun i hi => hi.elim (fun e => by show B ≤ i; omega) (fun e => e.1))
section
variable {w w' : World} {B b : Nat} {vE : Value} {r : Nat → Value} {s : SS}
theorem SM.lt (h : SM w B b vE r s) : b < w.heap.size := lt_of_block h.blk
theorem SM.fz (h : SM w B b vE r s) (k : Nat) : w.frozen? ⟨b, k, none⟩ = false := by have h' := h.blk; simp [World.frozen?, h']
theorem SM.c0 (h : SM w B b vE r s) : w.cell? ⟨b, 0, none⟩ = some vE := (blk_c h.blk rfl).1
theorem SM.cr (h : SM w B b vE r s) {i : Nat} (hi : i < 6) : w.cell? ⟨b, i + 1, none⟩ = some (r i) := by
  match i, hi with
  | 0, _ => exact (blk_c h.blk rfl).1
  | 1, _ => exact (blk_c h.blk rfl).1
  | 2, _ => exact (blk_c h.blk rfl).1
  | 3, _ => exact (blk_c h.blk rfl).1
  | 4, _ => exact (blk_c h.blk rfl).1
  | 5, _ => exact (blk_c h.blk rfl).1
theorem SM.c7 (h : SM w B b vE r s) : w.cell? ⟨b, 7, none⟩ = some (.int .i64 s.found) := (blk_c h.blk rfl).1
theorem SM.c8 (h : SM w B b vE r s) : w.cell? ⟨b, 8, none⟩ = some (.int .i64 s.last) := (blk_c h.blk rfl).1
theorem SM.ne (h : SM w B b vE r s) {i : Nat} (hi : i < 6) {g : Nat} (hg : (r i).ownBlock = some g) : ¬ g = b := by
  intro e
  subst e
  rcases (h.row i hi).2 with ⟨hv, -⟩ | ⟨g', cap, cur, hv, -, hb', -⟩
  · rw [hv] at hg; cases hg
  · rw [hv] at hg
    cases hg
    rw [h.blk] at hb'
    have := (Obj.cells.inj (Option.some.inj hb')).2.1
    exact absurd this (by decide)
theorem SM.isI (h : SM w B b vE r s) {i : Nat} (hi : i < 6) {g : Nat} (hg : (r i).ownBlock = some g) : IsI w B g := by
  rcases (h.row i hi).2 with ⟨hv, -⟩ | ⟨g', cap, cur, hv, hB, hb', -⟩
  · rw [hv] at hg; cases hg
  · rw [hv] at hg
    cases hg
    exact ⟨hB, _, _, hb'⟩
theorem SM.same (h : SM w B b vE r s) (ho : Only (fun _ => False) w w') : SM w' B b vE r s :=
  ⟨(ho.block b h.lt (fun hc => hc)).trans h.blk, h.low, fun i hi => (h.row i hi).only ho (fun _ _ hc => hc), h.dis⟩
/-- A number of one of the rows is written. -/
theorem SM.put (h : SM w B b vE r s) {i : Nat} (hi : i < 6) {g n ca : Nat} (hr : r i = .slice (some ⟨g, 0, none⟩) n ca) {j : Nat} (hj : j < (dat s i).length) (v : Nat) {s' : SS} (hf : s'.found = s.found) (hl : s'.last = s.last)
    (hd : dat s' i = (dat s i).set j v) (ho : ∀ k, k < 6 → k ≠ i → dat s' k = dat s k) : SM (w.setCell ⟨g, j, none⟩ (iV v)) B b vE r s' := by
  have hg : (r i).ownBlock = some g := by rw [hr]; rfl
  have hne := h.ne hi hg
  have hO : Only (· = g) w (w.setCell ⟨g, j, none⟩ (iV v)) := Only.setCell (K := (· = g)) (Only.refl _ _) rfl _
  refine ⟨?_, h.low, fun k hk => ?_, h.dis⟩
  · rw [hf, hl]
    exact (hO.block b h.lt (fun e => hne e.symm)).trans h.blk
  · by_cases e : k = i
    · subst e
      have := h.row k hk
      rw [hr] at this ⊢
      rw [hd]
      exact this.set hj v
    · rw [ho k hk e]
      exact (h.row k hk).only hO (fun g' hg' e' => h.dis k i hk hi e g' hg' (by rw [e']; exact hg))
theorem SM.putF (h : SM w B b vE r s) {i : Nat} (hi : i < 6) {g n ca : Nat} (hr : r i = .slice (some ⟨g, 0, none⟩) n ca) (j : Nat) (v : Value) : FG B b w (w.setCell ⟨g, j, none⟩ v) :=
  Only.setCell (Only.refl _ _) (.inr (h.isI hi (by rw [hr]; rfl))) _
/-- A number of the search's block is written. -/
theorem SM.numF (h : SM w B b vE r s) (k : Nat) : SM (w.setCell ⟨b, 7, none⟩ (iV k)) B b vE r { s with found := k } := by
  have hO : Only (· = b) w (w.setCell ⟨b, 7, none⟩ (iV k)) := Only.setCell (K := (· = b)) (Only.refl _ _) rfl _
  have h' := h.blk
  refine ⟨by simp [World.setCell, Array.getElem?_modify, h'], h.low, fun i hi => ?_, h.dis⟩
  have h2 := (h.row i hi).only hO (fun g hg e => h.ne hi hg e)
  match i, hi with
  | 0, _ => exact h2
  | 1, _ => exact h2
  | 2, _ => exact h2
  | 3, _ => exact h2
  | 4, _ => exact h2
  | 5, _ => exact h2
theorem SM.numL (h : SM w B b vE r s) (k : Nat) : SM (w.setCell ⟨b, 8, none⟩ (iV k)) B b vE r { s with last := k } := by
  have hO : Only (· = b) w (w.setCell ⟨b, 8, none⟩ (iV k)) := Only.setCell (K := (· = b)) (Only.refl _ _) rfl _
  have h' := h.blk
  refine ⟨by simp [World.setCell, Array.getElem?_modify, h'], h.low, fun i hi => ?_, h.dis⟩
  have h2 := (h.row i hi).only hO (fun g hg e => h.ne hi hg e)
  match i, hi with
  | 0, _ => exact h2
  | 1, _ => exact h2
  | 2, _ => exact h2
  | 3, _ => exact h2
  | 4, _ => exact h2
  | 5, _ => exact h2
theorem FG.blk (w : World) (B b k : Nat) (v : Value) : FG B b w (w.setCell ⟨b, k, none⟩ v) := Only.setCell (Only.refl _ _) (.inl rfl) _
end
end Go.Proofs.YtigmdiagdlbdpaaGreat
namespace Go.Proofs.YtigmdiagdlbdpaaGreat
open Go.RowKit Go.Maps
def upd (r : Nat → Value) (i : Nat) (v : Value) (k : Nat) : Value := if k = i then v else r k
section
variable {w w' : World} {B b : Nat} {vE : Value} {r : Nat → Value} {s : SS}
/-- A row has grown, and stands in the search's block. -/
theorem SM.grow (h : SM w B b vE r s) {i : Nat} (hi : i = 4 ∨ i = 5) {w3 : World} (hg : w.grownBy w3 (r i).ownBlock) {v' : Value} {s' : SS} (hf : s'.found = s.found) (hl : s'.last = s.last) (ho : ∀ k, k < 6 → k ≠ i → dat s' k = dat s k)
    (hrow : IR w3 B v' (dat s' i)) (hb : ∀ g, v'.ownBlock = some g → (r i).ownBlock = some g ∨ w.heap.size ≤ g) : SM (w3.setCell ⟨b, i + 1, none⟩ v') B b vE (upd r i v') s' := by
  have hi6 : i < 6 := by omega
  have hbb : w3.heap[b]? = w.heap[b]? := hg.block b h.lt (fun e => h.ne hi6 e.symm rfl)
  have hO : Only (· = b) w3 (w3.setCell ⟨b, i + 1, none⟩ v') := Only.setCell (K := (· = b)) (Only.refl _ _) rfl _
  have h' := hbb.trans h.blk
  have hnb : ∀ g, v'.ownBlock = some g → ¬ g = b := fun g hgv e => by
    rcases hb g hgv with h1 | h1
    · exact h.ne hi6 h1 e
    · have := h.lt; omega
  refine ⟨?_, h.low, fun k hk => ?_, ?_⟩
  · rw [hf, hl]
    rcases hi with rfl | rfl
    · show (w3.setCell ⟨b, 5, none⟩ v').heap[b]? = _
      simp [World.setCell, Array.getElem?_modify, h', upd]
    · show (w3.setCell ⟨b, 6, none⟩ v').heap[b]? = _
      simp [World.setCell, Array.getElem?_modify, h', upd]
  · by_cases e : k = i
    · subst e
      rw [show upd r k v' k = v' from if_pos rfl]
      exact hrow.only hO (fun g hgv e' => hnb g hgv e')
    · rw [show upd r i v' k = r k from if_neg e, ho k hk e]
      have h2 : IR w3 B (r k) (dat s k) := rowKeep (h.row k hk) (fun g hgk => hg.block g (World.ownsRow.lt (h.row k hk) g hgk).2 (fun e' => h.dis k i hk hi6 e g hgk e'.symm))
      exact h2.only hO (fun g hgk e' => h.ne hk hgk e')
  · intro k j hk hj hkj g hgk hgj
    have hkey : ∀ j, j < 6 → j ≠ i → ∀ g, v'.ownBlock = some g → (r j).ownBlock ≠ some g := fun j hj hji g h1 h2 => by
      rcases hb g h1 with h3 | h3
      · exact h.dis j i hj hi6 hji g h2 h3
      · have := (World.ownsRow.lt (h.row j hj) g h2).2; omega
    by_cases e : k = i
    · rw [show upd r i v' k = v' from if_pos e] at hgk
      rw [show upd r i v' j = r j from if_neg (fun e' => hkj (e.trans e'.symm))] at hgj
      exact hkey j hj (fun e' => hkj (e.trans e'.symm)) g hgk hgj
    · rw [show upd r i v' k = r k from if_neg e] at hgk
      by_cases e2 : j = i
      · rw [show upd r i v' j = v' from if_pos e2] at hgj
        exact hkey k hk e g hgj hgk
      · rw [show upd r i v' j = r j from if_neg e2] at hgj
        exact h.dis k j hk hj hkj g hgk hgj
/-- A row of the block is cut. -/
theorem SM.cutp (h : SM w B b vE r s) {i : Nat} (hi : i = 4 ∨ i = 5) {oa : Option Addr} {n ca k : Nat} (hr : r i = .slice oa n ca) (hk : k ≤ (dat s i).length) {s' : SS} (hf : s'.found = s.found) (hl : s'.last = s.last) (ho : ∀ k, k < 6 → k ≠ i → dat s' k = dat s k) (hd : dat s' i = (dat s i).take k) :
    SM (w.setCell ⟨b, i + 1, none⟩ (.slice oa k ca)) B b vE (upd r i (.slice oa k ca)) s' := by
  have hi6 : i < 6 := by omega
  have hrow := h.row i hi6
  rw [hr] at hrow
  have hcut := hrow.cut hk
  rw [← hd] at hcut
  exact h.grow hi ⟨rfl, rfl, rfl, Nat.le_refl _, fun _ _ _ => rfl⟩ hf hl ho hcut (fun g hg => .inl (by rw [hr]; cases oa <;> exact hg))
theorem SM.rowv (h : SM w B b vE r s) {i : Nat} (hi : i < 6) : ∃ oa ca, r i = .slice oa (dat s i).length ca := rowForm (h.row i hi)
/-- The i-th row at k. -/
theorem SM.rat (h : SM w B b vE r s) {i k : Nat} (hi : i < 6) (hk : k < (dat s i).length) : ∃ g ca, r i = .slice (some ⟨g, 0, none⟩) (dat s i).length ca ∧ (dat s i).length ≤ ca ∧ w.cell? ⟨g, k, none⟩ = some (iV (gt (dat s i) k)) ∧ w.frozen? ⟨g, k, none⟩ = false ∧ ¬ g = b := by
  obtain ⟨oa, ca, hv⟩ := h.rowv hi
  have hr := h.row i hi
  rw [hv] at hr
  obtain ⟨g, rfl, hB, -, hca, hc, hf⟩ := hr.at hk
  exact ⟨g, ca, hv, hca, hc, hf, h.ne hi (by rw [hv]; rfl)⟩
set_option maxRecDepth 100000 in
set_option maxHeartbeats 2000000 in
theorem end_p (h : SM w B b vE r s) {A : List Nat} {u : Nat} (hp : s.path = A ++ [u]) (hn : s.path.length ≤ 1000000000) : Calls Tryz.prog 66 #[.pointer (some ⟨b, 0, none⟩)] w fun e w' => e = .returned (iV u) ∧ Only (fun _ => False) w w' := by
  have hlt : A.length < (dat s 4).length := by show _ < s.path.length; rw [hp]; simp
  obtain ⟨g, ca, hv, hca, hc, hf, -⟩ := h.rat (i := 4) (k := A.length) (by decide) hlt
  have hgt : gt (dat s 4) A.length = u := by rw [gt_at hlt]; show s.path[A.length]'hlt = u; simp [hp]
  rw [hgt] at hc
  have c5 := h.cr (i := 4) (by decide)
  rw [hv] at c5
  have hln : (dat s 4).length = A.length + 1 := by show s.path.length = _; rw [hp]; simp
  rw [hp] at hn
  simp only [List.length_append, List.length_singleton] at hn
  rw [hln] at c5 hca
  obtain ⟨m, hm⟩ : ∃ m, A.length = m := ⟨_, rfl⟩
  rw [hm] at c5 hca hc hn
  clear hgt hln hlt hv hm hf
  have hwm : IntKind.i64.wrap (m : Int) = (m : Int) := IntWalk.i64_in _ (by omega)
  have hw2 : (m : Int) < (m : Int) + 1 := by omega
  have hw3 : m < m + 1 := Nat.lt_succ_self m
  have hw5 : (0 : Int) ≤ (m : Int) := Int.natCast_nonneg m
  have hw6 : (m : Int).toNat = m := Int.toNat_natCast m
  go_enter Tryz.func66, Tryz.ntmps66
  go_wp2
  go_quiet (fail)
  all_goals
    go_wp2
    go_ret
    exact ⟨rfl, only_drewN _ _⟩
end
end Go.Proofs.YtigmdiagdlbdpaaGreat
namespace Go.Proofs.YtigmdiagdlbdpaaGreat
open Go.RowKit Go.Maps
section
variable {w w' : World} {B b : Nat} {vE : Value} {r : Nat → Value} {s : SS}
/-- What a step of the search leaves. -/
def SMx (w : World) (B b : Nat) (vE : Value) (s' : SS) (w' : World) : Prop := ∃ r', SM w' B b vE r' s' ∧ FG B b w w'
theorem SMx.frm {w1 : World} {s' : SS} (h : SMx w1 B b vE s' w') (f : FG B b w w1) : SMx w B b vE s' w' := by
  obtain ⟨r', h1, h2⟩ := h
  exact ⟨r', h1, f.trans h2⟩
theorem SM.grownB (h : SM w B b vE r s) {i : Nat} (hi : i < 6) {v : Value} (hr : r i = v) {w3 : World} (hg : w.grownBy w3 v.ownBlock) : w3.heap[b]? = w.heap[b]? := hg.block b h.lt (fun e => h.ne hi (by rw [hr]; exact e.symm) rfl)
theorem SM.grownF (h : SM w B b vE r s) {i : Nat} (hi : i < 6) {v : Value} (hr : r i = v) {w3 : World} (hg : w.grownBy w3 v.ownBlock) : FG B b w w3 := Only.grown hg (fun _ hk => .inr (h.isI hi (by rw [hr]; exact hk)))
set_option maxRecDepth 100000 in
set_option maxHeartbeats 8000000 in
theorem enter_p (h : SM w B b vE r s) {v : Nat} (hv : v < s.place.length) (hl : s.lowest.length = s.place.length) (hn : s.found + s.path.length + s.opn.length ≤ 1000000000) : Calls Tryz.prog 65 #[.pointer (some ⟨b, 0, none⟩), iV v] w fun e w' => e = .returned (.tuple #[]) ∧ SMx w B b vE (enterS s v) w' := by
  obtain ⟨i0', hi, hz0, hz1, hz2⟩ := info_parts infoInt
  have HI0 := Lib.hid hi
  have HZ0 := Lib.hid hz0
  have HZ1 := Lib.hid hz1
  have HZ2 := Lib.hid hz2
  clear hi hz0 hz1 hz2
  obtain ⟨gp, cp, hvp, hcp, q1, f1, n1⟩ := h.rat (i := 0) (k := v) (by decide) hv
  obtain ⟨gl, cl, hvl, hcl, q2, f2, n2⟩ := h.rat (i := 1) (k := v) (by decide) (by show v < s.lowest.length; omega)
  have hgg : ¬ gl = gp := fun e => h.dis 1 0 (by decide) (by decide) (by decide) gl (by rw [hvl]; rfl) (by rw [hvp, e]; rfl)
  have hM1 := h.numF (s.found + 1)
  have hM2 := hM1.put (i := 0) (by decide) hvp (j := v) hv (s.found + 1) (s' := { s with found := s.found + 1, place := s.place.set v (s.found + 1) }) rfl rfl rfl (fun k hk hk0 => by match k, hk with | 0, _ => exact absurd rfl hk0 | 1, _ => rfl | 2, _ => rfl | 3, _ => rfl | 4, _ => rfl | 5, _ => rfl)
  have hM3 := hM2.put (i := 1) (by decide) hvl (j := v) (by show v < s.lowest.length; omega) (s.found + 1) (s' := { s with found := s.found + 1, place := s.place.set v (s.found + 1), lowest := s.lowest.set v (s.found + 1) }) rfl rfl rfl (fun k hk hk0 => by match k, hk with | 0, _ => rfl | 1, _ => exact absurd rfl hk0 | 2, _ => rfl | 3, _ => rfl | 4, _ => rfl | 5, _ => rfl)
  have hF3 : FG B b w (((w.setCell ⟨b, 7, none⟩ (iV (s.found + 1))).setCell ⟨gp, v, none⟩ (iV (s.found + 1))).setCell ⟨gl, v, none⟩ (iV (s.found + 1))) := ((FG.blk w B b 7 _).trans (hM1.putF (i := 0) (by decide) hvp v _)).trans (hM2.putF (i := 1) (by decide) hvl v _)
  have c7 := h.c7
  have z7 := h.fz 7
  have c1 := h.cr (i := 0) (by decide)
  have c2 := h.cr (i := 1) (by decide)
  rw [hvp] at c1
  rw [hvl] at c2
  obtain ⟨np, hnp⟩ : ∃ np, (dat s 0).length = np := ⟨_, rfl⟩
  obtain ⟨nl, hnl⟩ : ∃ nl, (dat s 1).length = nl := ⟨_, rfl⟩
  have hv1 : v < np := by rw [← hnp]; exact hv
  have hv2 : v < nl := by rw [← hnl]; show v < s.lowest.length; omega
  rw [hnp] at c1 hcp
  rw [hnl] at c2 hcl
  have hwf : IntKind.i64.wrap ((s.found : Int) + 1) = (s.found : Int) + 1 := IntWalk.i64_in _ (by omega)
  have h01 : (0 : Int) ≤ (v : Int) := Int.natCast_nonneg v
  have h02 : (v : Int) < (np : Int) := by omega
  have h03 : (v : Int) < (nl : Int) := by omega
  have h04 : (v : Int).toNat = v := Int.toNat_natCast v
  have HM3 := Lib.hid hM3
  have HF3 := Lib.hid hF3
  clear hM1 hM2 hM3 hF3 hvp hvl hnp hnl
  go_enter Tryz.func65, Tryz.ntmps65
  go_wp2
  go_region
  go_wp2
  go_region
  refine gen_exit (fun wx => SM wx B b vE r { s with found := s.found + 1, place := s.place.set v (s.found + 1), lowest := s.lowest.set v (s.found + 1) } ∧ FG B b w wx) ⟨HM3.out.same ((Only.refl _ _).drew.drew), HF3.out.trans (FG.keep ((Only.refl _ _).drew.drew))⟩ ?_
  clear HM3 HF3 q1 q2 f1 f2 n1 n2 hgg c7 z7 c1 c2 hwf h02 h03 hcp hcl
  rintro wx ⟨hS, hF⟩
  obtain ⟨op, cap, hvp⟩ := hS.rowv (i := 4) (by decide)
  have c5 := hS.cr (i := 4) (by decide)
  have z5 := hS.fz 5
  have hrow := hS.row 4 (by decide)
  rw [hvp] at c5 hrow
  have HOWN : wx.ownsRow B 3 1 (.slice op s.path.length cap) s.path.length (s.path.map iV) := hrow
  have c5' : wx.cell? ⟨b, 5, none⟩ = some (.slice op s.path.length cap) := c5
  have hbx := hS.lt
  have hBb := hS.low
  have hlp : s.path.length + 1 ≤ 1000000000 + 1 := by omega
  have hA : Only (fun _ => False) wx (wx.alloc (.cells #[iV v] 3)) := (Only.refl _ _).alloc _
  have hSA := hS.same hA
  have HVP := Lib.hid hvp
  clear hrow c5 hvp
  obtain ⟨oo, cao, hvo⟩ := hS.rowv (i := 5) (by decide)
  have HVO := Lib.hid hvo
  have hlo : s.opn.length + 1 ≤ 1000000000 + 1 := by omega
  clear hvo
  go_wp2_with (first | (at_builtin; refine wpList_append_lies _ rfl _ _ 55 rfl B 3 i0' (.int .i64 0) 1 8 Tryz.underlying55 HI0.out HZ0.out HZ1.out HZ2.out rfl (by decide) (.slice op s.path.length cap) s.path.length (s.path.map iV) rfl (World.ownsRow.alloc HOWN _) ⟨wx.heap.size, 0, none⟩ 1 1 [iV v] rfl rfl (World.news_of_block (new_at _ rfl)) (one_int v) Nat.one_pos (by unfold maxLen; omega) (by omega) (by show B ≤ (Array.push _ _).size; rw [Array.size_push]; have := hbx; omega) _ rfl ?_; intro g cg w3 hown' hgrow hat hlt'; have hbb := (hSA.grownB (i := 4) (by decide) HVP.out hgrow).trans hSA.blk; have p5 := (blk_c (k := 5) hbb rfl).1; have y5 := (blk_c (k := 5) hbb rfl).2; have p6 := (blk_c (k := 6) hbb rfl).1; have y6 := (blk_c (k := 6) hbb rfl).2; rw [HVO.out] at p6; have hFA := Lib.hid ((FG.keep hA).trans (hSA.grownF (i := 4) (by decide) HVP.out hgrow)); have hS4 := hSA.grow (i := 4) (.inl rfl) (by rw [HVP.out]; exact hgrow) (v' := .slice (some ⟨g, 0, none⟩) (s.path.length + 1) cg) (s' := { s with found := s.found + 1, place := s.place.set v (s.found + 1), lowest := s.lowest.set v (s.found + 1), path := s.path ++ [v] }) rfl rfl (fun k hk hk0 => by match k, hk with | 0, _ => rfl | 1, _ => rfl | 2, _ => rfl | 3, _ => rfl | 4, _ => exact absurd rfl hk0 | 5, _ => rfl) (IR.snoc hown') (fun g' hg' => by have hgg : g = g' := Option.some.inj hg'; rcases hat with e | e; exact .inl (by rw [HVP.out]; exact hgg ▸ e); right; have e3 : g = (Array.push _ _).size := e; exact Nat.le_of_eq (e3.symm.trans hgg)); have hsz4 : (w3.setCell ⟨b, 5, none⟩ (.slice (some ⟨g, 0, none⟩) (s.path.length + 1) cg)).heap.size = w3.heap.size := (by simp [World.setCell]); have HSZ := Lib.hid hsz4; have HBB := Lib.hid hbb; have hsz3 := hgrow.size; have hbl3 : b < w3.heap.size := lt_of_block hbb; have HS4 := Lib.hid hS4; have HVO4 : Hid (upd r 4 (.slice (some ⟨g, 0, none⟩) (s.path.length + 1) cg) 5 = .slice oo s.opn.length cao) := Lib.hid HVO.out; have HOWN2 : (w3.setCell ⟨b, 5, none⟩ (.slice (some ⟨g, 0, none⟩) (s.path.length + 1) cg)).ownsRow B 3 1 (.slice oo s.opn.length cao) s.opn.length (s.opn.map iV) := (show IR _ B (.slice oo s.opn.length cao) s.opn from HVO.out ▸ hS4.row 5 (by decide)); clear hgrow hown' hat hlt' hbb hsz4 hsz3 hS4) | (at_builtin; refine wpList_append_lies _ rfl _ _ 55 rfl B 3 i0' (.int .i64 0) 1 8 Tryz.underlying55 HI0.out HZ0.out HZ1.out HZ2.out rfl (by decide) (.slice oo s.opn.length cao) s.opn.length (s.opn.map iV) rfl (World.ownsRow.alloc HOWN2 _) ⟨w3.heap.size, 0, none⟩ 1 1 [iV v] rfl rfl (World.news_of_block (new_at _ HSZ.out)) (one_int v) Nat.one_pos (by unfold maxLen; omega) (by omega) (by show B ≤ (Array.push _ _).size; rw [Array.size_push]; rw [HSZ.out]; have := hbl3; omega) _ rfl ?_; intro g6 cg6 w6 hown6 hgrow6 hat6 hlt6; have hA4 : Only (fun _ => False) (w3.setCell ⟨b, 5, none⟩ (.slice (some ⟨g, 0, none⟩) (s.path.length + 1) cg)) ((w3.setCell ⟨b, 5, none⟩ (.slice (some ⟨g, 0, none⟩) (s.path.length + 1) cg)).alloc (.cells #[iV v] 3)) := Only.alloc (Only.refl _ _) _; have hSB := HS4.out.same hA4; have hbb6 := (hSB.grownB (i := 5) (by decide) HVO4.out hgrow6).trans hSB.blk; have p7 := (blk_c (k := 6) hbb6 rfl).1; have y7 := (blk_c (k := 6) hbb6 rfl).2; rw [HVO4.out] at p7; have HFB := Lib.hid ((FG.keep hA4).trans (hSB.grownF (i := 5) (by decide) HVO4.out hgrow6)); have HS6 := Lib.hid (hSB.grow (i := 5) (.inr rfl) (by rw [HVO4.out]; exact hgrow6) (v' := .slice (some ⟨g6, 0, none⟩) (s.opn.length + 1) cg6) (s' := enterS s v) rfl rfl (fun k hk hk0 => by match k, hk with | 0, _ => rfl | 1, _ => rfl | 2, _ => rfl | 3, _ => rfl | 4, _ => rfl | 5, _ => exact absurd rfl hk0) (IR.snoc hown6) (fun g' hg' => by have hgg : g6 = g' := Option.some.inj hg'; rcases hat6 with e | e; exact .inl (by rw [HVO4.out]; exact hgg ▸ e); right; have e3 : g6 = (Array.push _ _).size := e; exact Nat.le_of_eq (e3.symm.trans hgg))); clear hgrow6 hown6 hat6 hlt6 hSB hA4 hbb6))
  go_end0
  exact ⟨rfl, _, HS6.out, (((hF.trans hFA.out).trans (FG.blk _ _ _ _ _)).trans HFB.out).trans (FG.blk _ _ _ _ _)⟩
end
end Go.Proofs.YtigmdiagdlbdpaaGreat
namespace Go.Proofs.YtigmdiagdlbdpaaGreat
open Go.RowKit Go.Maps
section
variable {w w' : World} {B b : Nat} {vE : Value} {r : Nat → Value} {s : SS}
/-- The rows have one length. -/
structure Ln (n : Nat) (s : SS) : Prop where
  p : s.place.length = n
  l : s.lowest.length = n
  k : s.looked.length = n
  m : s.number.length = n
theorem Lt.ln' {G : List (List Nat)} (h : Lt G s) : Ln G.length s := ⟨h.lp, h.ll, h.lk, h.ln⟩
theorem look_zero {u v : Nat} (hn : gt s.number v = 0) : lookS s u v = { s with lowest := s.lowest.set u (min (gt s.lowest u) (gt s.lowest v)), looked := s.looked.set u (gt s.looked u + 1) } := by unfold lookS; rw [if_pos hn]
theorem look_some {u v : Nat} (hn : ¬ gt s.number v = 0) : lookS s u v = { s with looked := s.looked.set u (gt s.looked u + 1) } := by unfold lookS; rw [if_neg hn]
set_option maxRecDepth 100000 in
set_option maxHeartbeats 8000000 in
theorem look_p (h : SM w B b vE r s) {n u v : Nat} (hl : Ln n s) (hu : u < n) (hv : v < n) (hk : gt s.looked u + 1 ≤ 1000000000) : Calls Tryz.prog 67 #[.pointer (some ⟨b, 0, none⟩), iV u, iV v] w fun e w' => e = .returned (.tuple #[]) ∧ SMx w B b vE (lookS s u v) w' := by
  have h01 : (0 : Int) ≤ (u : Int) := Int.natCast_nonneg u
  have h02 : (u : Int) < (n : Int) := by omega
  have h04 : (u : Int).toNat = u := Int.toNat_natCast u
  have h05 : (0 : Int) ≤ (v : Int) := Int.natCast_nonneg v
  have h06 : (v : Int) < (n : Int) := by omega
  have h07 : (v : Int).toNat = v := Int.toNat_natCast v
  obtain ⟨gn, cn, hvn, hcn, q3, f3, n3⟩ := h.rat (i := 3) (k := v) (by decide) (by show v < s.number.length; rw [hl.m]; exact hv)
  have c4 := h.cr (i := 3) (by decide)
  have e3 : (dat s 3).length = n := hl.m
  rw [hvn, e3] at c4
  rw [e3] at hcn hvn
  by_cases hz : gt s.number v = 0
  · obtain ⟨gl, cl, hvl, hcl, q1, f1, n1⟩ := h.rat (i := 1) (k := u) (by decide) (by show u < s.lowest.length; rw [hl.l]; exact hu)
    obtain ⟨gl', cl', hvl', -, q1', -, -⟩ := h.rat (i := 1) (k := v) (by decide) (by show v < s.lowest.length; rw [hl.l]; exact hv)
    rw [hvl] at hvl'
    cases hvl'
    have c2 := h.cr (i := 1) (by decide)
    have e1 : (dat s 1).length = n := hl.l
    rw [hvl, e1] at c2
    rw [e1] at hcl hvl
    change w.cell? ⟨gl, u, none⟩ = some (iV (gt s.lowest u)) at q1
    change w.cell? ⟨gl, v, none⟩ = some (iV (gt s.lowest v)) at q1'
    change w.cell? ⟨gn, v, none⟩ = some (iV (gt s.number v)) at q3
    rw [hz] at q3
    obtain ⟨a1, ha1⟩ : ∃ a, gt s.lowest u = a := ⟨_, rfl⟩
    obtain ⟨a2, ha2⟩ : ∃ a, gt s.lowest v = a := ⟨_, rfl⟩
    have hM1 := h.put (i := 1) (by decide) hvl (j := u) (by rw [e1]; exact hu) (min a1 a2) (s' := { s with lowest := s.lowest.set u (min a1 a2) }) rfl rfl rfl (fun k hk hk0 => by match k, hk with | 0, _ => rfl | 1, _ => exact absurd rfl hk0 | 2, _ => rfl | 3, _ => rfl | 4, _ => rfl | 5, _ => rfl)
    have hF1 : FG B b w (w.setCell ⟨gl, u, none⟩ (iV (min a1 a2))) := h.putF (i := 1) (by decide) hvl u _
    have hmin : ((min a1 a2 : Nat) : Int) = if a2 < a1 then (a2 : Int) else (a1 : Int) := by split <;> omega
    have HM1 : Hid (SM (w.setCell ⟨gl, u, none⟩ (.int .i64 (if a2 < a1 then (a2 : Int) else (a1 : Int)))) B b vE r { s with lowest := s.lowest.set u (min a1 a2) }) := Lib.hid (by rw [← hmin]; exact hM1)
    have HF1 : Hid (FG B b w (w.setCell ⟨gl, u, none⟩ (.int .i64 (if a2 < a1 then (a2 : Int) else (a1 : Int))))) := Lib.hid (by rw [← hmin]; exact hF1)
    have HA1 := Lib.hid ha1
    have HA2 := Lib.hid ha2
    rw [ha1] at q1
    rw [ha2] at q1'
    have HZ := Lib.hid hz
    clear hM1 hF1 hmin ha1 ha2 hz hvl hvn e1 e3
    go_enter Tryz.func67, Tryz.ntmps67
    go_wp2
    go_region
    refine gen_exit (fun wx => SM wx B b vE r { s with lowest := s.lowest.set u (min a1 a2) } ∧ FG B b w wx) ⟨HM1.out.same ((Only.refl _ _).drew), HF1.out.trans (FG.keep ((Only.refl _ _).drew))⟩ ?_
    clear HM1 HF1 q1 q1' q3 f1 f3 n1 n3 c2 c4 hcl hcn
    rintro wx ⟨hS, hF⟩
    have hlk : gt s.looked u = gt ({ s with lowest := s.lowest.set u (min a1 a2) } : SS).looked u := rfl
    obtain ⟨gk, ck, hvk, hck, q2, f2, n2⟩ := hS.rat (i := 2) (k := u) (by decide) (by show u < s.looked.length; rw [hl.k]; exact hu)
    have e2 : (dat ({ s with lowest := s.lowest.set u (min a1 a2) } : SS) 2).length = n := hl.k
    have c3 := hS.cr (i := 2) (by decide)
    rw [hvk, e2] at c3
    rw [e2] at hck hvk
    change wx.cell? ⟨gk, u, none⟩ = some (iV (gt s.looked u)) at q2
    obtain ⟨kk, hkk⟩ : ∃ k, gt s.looked u = k := ⟨_, rfl⟩
    rw [hkk] at q2 hk
    have hM2 := hS.put (i := 2) (by decide) hvk (j := u) (by rw [e2]; exact hu) (kk + 1) (s' := lookS s u v) (by rw [look_zero HZ.out]) (by rw [look_zero HZ.out]) (by rw [look_zero HZ.out, hkk]; rfl) (fun k hk hk0 => by rw [look_zero HZ.out, HA1.out, HA2.out]; match k, hk with | 0, _ => rfl | 1, _ => rfl | 2, _ => exact absurd rfl hk0 | 3, _ => rfl | 4, _ => rfl | 5, _ => rfl)
    have hF2 : FG B b wx (wx.setCell ⟨gk, u, none⟩ (iV (kk + 1))) := hS.putF (i := 2) (by decide) hvk u _
    have hwk : IntKind.i64.wrap ((kk : Int) + 1) = (kk : Int) + 1 := IntWalk.i64_in _ (by omega)
    have HM2 := Lib.hid hM2
    have HF2 := Lib.hid (hF.trans hF2)
    clear hM2 hF2 hkk hvk e2 hlk
    go_wp2
    all_goals
      go_end0
      exact ⟨rfl, r, HM2.out, HF2.out⟩
  · change w.cell? ⟨gn, v, none⟩ = some (iV (gt s.number v)) at q3
    have hz1 : (((gt s.number v : Nat) : Int) == 0) = false := by simp; omega
    obtain ⟨nn, hnn⟩ : ∃ k, gt s.number v = k := ⟨_, rfl⟩
    obtain ⟨gk, ck, hvk, hck, q2, f2, n2⟩ := h.rat (i := 2) (k := u) (by decide) (by show u < s.looked.length; rw [hl.k]; exact hu)
    have e2 : (dat s 2).length = n := hl.k
    have c3 := h.cr (i := 2) (by decide)
    rw [hvk, e2] at c3
    rw [e2] at hck hvk
    change w.cell? ⟨gk, u, none⟩ = some (iV (gt s.looked u)) at q2
    obtain ⟨kk, hkk⟩ : ∃ k, gt s.looked u = k := ⟨_, rfl⟩
    rw [hkk] at q2 hk
    have hM2 := h.put (i := 2) (by decide) hvk (j := u) (by rw [e2]; exact hu) (kk + 1) (s' := lookS s u v) (by rw [look_some hz]) (by rw [look_some hz]) (by rw [look_some hz, hkk]; rfl) (fun k hk hk0 => by rw [look_some hz]; match k, hk with | 0, _ => rfl | 1, _ => rfl | 2, _ => exact absurd rfl hk0 | 3, _ => rfl | 4, _ => rfl | 5, _ => rfl)
    have hF2 : FG B b w (w.setCell ⟨gk, u, none⟩ (iV (kk + 1))) := h.putF (i := 2) (by decide) hvk u _
    have hwk : IntKind.i64.wrap ((kk : Int) + 1) = (kk : Int) + 1 := IntWalk.i64_in _ (by omega)
    have HM2 := Lib.hid hM2
    have HF2 := Lib.hid hF2
    rw [hnn] at q3 hz1
    clear hM2 hF2 hkk hvk e2 hz hnn hvn e3
    go_enter Tryz.func67, Tryz.ntmps67
    go_wp2
    all_goals
      go_end0
      exact ⟨rfl, r, HM2.out, HF2.out⟩
end
end Go.Proofs.YtigmdiagdlbdpaaGreat
namespace Go.Proofs.YtigmdiagdlbdpaaGreat
open Go.RowKit Go.Maps
section
variable {w w' : World} {B b : Nat} {vE : Value} {r : Nat → Value} {s : SS}
theorem leave_zero {u : Nat} (h : ¬ gt s.lowest u < gt s.place u) : leaveS s u = { s with path := s.path.dropLast, last := s.last + 1, number := (popR u (s.last + 1) s.opn.reverse s.number).1, opn := (popR u (s.last + 1) s.opn.reverse s.number).2.reverse } := by unfold leaveS; rw [if_neg h]
theorem popR_go {u n x : Nat} {r nb : List Nat} (h : gt nb u = 0) : popR u n (x :: r) nb = popR u n r (nb.set x n) := by conv => lhs; unfold popR; rw [if_pos h]
theorem popR_stop {u n : Nat} {r nb : List Nat} (h : ¬ gt nb u = 0) : popR u n r nb = (nb, r) := by
  cases r with
  | nil => rfl
  | cons x r => unfold popR; rw [if_neg h]
/-- While u is not closed, it is open. -/
def Opn (u m : Nat) (o nb : List Nat) : Prop := (gt nb u = 0 → u ∈ o) ∧ ∀ x ∈ o, x < m
theorem opn_pop {u m n x : Nat} {o nb : List Nat} (hn : n ≠ 0) (hl : nb.length = m) (h : Opn u m (o ++ [x]) nb) : Opn u m o (nb.set x n) := by
  have hx : x < nb.length := by rw [hl]; exact h.2 x (by simp)
  refine ⟨fun h0 => ?_, fun y hy => h.2 y (by simp [hy])⟩
  rw [gt_set hx] at h0
  by_cases e : u = x
  · rw [if_pos e] at h0; exact absurd h0 hn
  · rw [if_neg e] at h0
    have := h.1 h0
    rcases List.mem_append.1 this with h1 | h1
    · exact h1
    · exact absurd (by simpa using h1) e
set_option maxRecDepth 100000 in
set_option maxHeartbeats 8000000 in
theorem leave_p (h : SM w B b vE r s) {n u : Nat} {A : List Nat} (hl : Ln n s) (hp : s.path = A ++ [u]) (hu : u < n) (hpl : s.path.length + s.opn.length + s.last + 1 ≤ 1000000000) (ho : ∀ x ∈ s.opn, x < n) (huo : u ∈ s.opn) : Calls Tryz.prog 68 #[.pointer (some ⟨b, 0, none⟩), iV u] w fun e w' => e = .returned (.tuple #[]) ∧ SMx w B b vE (leaveS s u) w' := by
  have h01 : (0 : Int) ≤ (u : Int) := Int.natCast_nonneg u
  have h02 : (u : Int) < (n : Int) := by omega
  have h04 : (u : Int).toNat = u := Int.toNat_natCast u
  have hAl : s.path.length = A.length + 1 := by rw [hp]; simp
  obtain ⟨gp, cp, hvp, hcp, -, -, -⟩ := h.rat (i := 4) (k := A.length) (by decide) (by show A.length < s.path.length; omega)
  have c5 := h.cr (i := 4) (by decide)
  have z5 := h.fz 5
  have e4 : (dat s 4).length = A.length + 1 := hAl
  rw [hvp, e4] at c5
  rw [e4] at hcp hvp
  have hcut := h.cutp (i := 4) (.inl rfl) hvp (k := A.length) (by show A.length ≤ s.path.length; omega) (s' := { s with path := s.path.dropLast }) rfl rfl (fun k hk hk0 => by match k, hk with | 0, _ => rfl | 1, _ => rfl | 2, _ => rfl | 3, _ => rfl | 4, _ => exact absurd rfl hk0 | 5, _ => rfl) (by show s.path.dropLast = s.path.take A.length; rw [hp]; simp)
  have hcF : FG B b w (w.setCell ⟨b, 5, none⟩ (.slice (some ⟨gp, 0, none⟩) A.length cp)) := FG.blk _ _ _ _ _
  obtain ⟨m, hm⟩ : ∃ m, A.length = m := ⟨_, rfl⟩
  rw [hm] at c5 hcp hcut hcF
  have hmb : m + 1 ≤ 1000000000 := by omega
  have hwm : IntKind.i64.wrap (m : Int) = (m : Int) := IntWalk.i64_in _ (by omega)
  have hw5 : (0 : Int) ≤ (m : Int) := Int.natCast_nonneg m
  have hw6 : (m : Int).toNat = m := Int.toNat_natCast m
  have hw7 : (m : Int) ≤ (cp : Int) := by omega
  have hw8 : m ≤ cp := by omega
  have hw9 : ¬ cp = 0 := by omega
  have HC := Lib.hid hcut
  have HCF := Lib.hid hcF
  clear hcut hcF hvp e4
  go_enter Tryz.func68, Tryz.ntmps68
  go_wp2
  go_region
  refine gen_exit (fun wx => SM wx B b vE (upd r 4 (.slice (some ⟨gp, 0, none⟩) m cp)) { s with path := s.path.dropLast } ∧ FG B b w wx) ⟨HC.out.same ((Only.refl _ _).drew), HCF.out.trans (FG.keep ((Only.refl _ _).drew))⟩ ?_
  clear HC HCF c5 z5 hcp hwm hw5 hw6 hw7 hw8 hw9
  rintro wx ⟨hS, hF⟩
  obtain ⟨r1, hr1⟩ : ∃ r1, upd r 4 (.slice (some ⟨gp, 0, none⟩) m cp) = r1 := ⟨_, rfl⟩
  rw [hr1] at hS
  clear hr1
  obtain ⟨gl, cl, hvl, hcl, q1, f1, n1⟩ := hS.rat (i := 1) (k := u) (by decide) (by show u < s.lowest.length; rw [hl.l]; exact hu)
  obtain ⟨ga, ca, hva, hca, q0, f0, n0⟩ := hS.rat (i := 0) (k := u) (by decide) (by show u < s.place.length; rw [hl.p]; exact hu)
  have c2 := hS.cr (i := 1) (by decide)
  have c1 := hS.cr (i := 0) (by decide)
  have e1 : (dat ({ s with path := s.path.dropLast } : SS) 1).length = n := hl.l
  have e0 : (dat ({ s with path := s.path.dropLast } : SS) 0).length = n := hl.p
  rw [hvl, e1] at c2
  rw [hva, e0] at c1
  rw [e1] at hcl
  rw [e0] at hca
  change wx.cell? _ = some (iV (gt s.lowest u)) at q1
  change wx.cell? _ = some (iV (gt s.place u)) at q0
  obtain ⟨a1, ha1⟩ : ∃ a, gt s.lowest u = a := ⟨_, rfl⟩
  obtain ⟨a0, ha0⟩ : ∃ a, gt s.place u = a := ⟨_, rfl⟩
  rw [ha1] at q1
  rw [ha0] at q0
  have HA1 := Lib.hid ha1
  have HA0 := Lib.hid ha0
  clear e1 e0 hvl hva ha1 ha0 hm
  by_cases hlo : a1 < a0
  · have hdl : decide ((a1 : Int) < (a0 : Int)) = true := decide_eq_true (by omega)
    have HR : Hid (leaveS s u = { s with path := s.path.dropLast }) := Lib.hid (leave_open (by rw [HA1.out, HA0.out]; exact hlo))
    go_wp2
    go_region
    go_wp2
    all_goals
      refine bodyPost_ret (v := .tuple #[]) (by simp [results, Tryz.results68, go_sem]) rfl ?_
      rw [HR.out]
      exact ⟨rfl, r1, hS.same ((Only.refl _ _).drew), hF.trans (FG.keep ((Only.refl _ _).drew))⟩
  · have hdl : decide ((a1 : Int) < (a0 : Int)) = false := decide_eq_false (by omega)
    have HNLO : Hid (¬ gt s.lowest u < gt s.place u) := Lib.hid (by rw [HA1.out, HA0.out]; exact hlo)
    have c8 := hS.c8
    have z8 := hS.fz 8
    change wx.cell? _ = some (.int .i64 (s.last : Int)) at c8
    have hwl : IntKind.i64.wrap ((s.last : Int) + 1) = (s.last : Int) + 1 := IntWalk.i64_in _ (by omega)
    have HS8 := Lib.hid (hS.numL (s.last + 1))
    have HOP : Hid (Opn u n s.opn s.number) := Lib.hid ⟨fun _ => huo, ho⟩
    go_wp2
    go_region
    go_wp2
    go_loopg [] s.opn.length (fun gk wr => ∃ (rx : Nat → Value) (nb o : List Nat), SM wr B b vE rx { s with path := s.path.dropLast, last := s.last + 1, number := nb, opn := o } ∧ nb.length = n ∧ Opn u n o nb ∧ o.length = gk ∧ gk ≤ s.opn.length ∧ Hid (popR u (s.last + 1) o.reverse nb = popR u (s.last + 1) s.opn.reverse s.number) ∧ FG B b w wr)
    case atStart => exact ⟨r1, s.number, s.opn, HS8.out.same ((Only.refl _ _).drew), hl.m, HOP.out, rfl, Nat.le_refl _, Lib.hid rfl, (hF.trans (FG.blk wx B b 8 (iV (s.last + 1)))).trans (FG.keep ((Only.refl _ _).drew))⟩
    case round =>
      clear HS8 c8 z8 c1 c2 q1 q0 f1 f0 n1 n0 hcl hca hS hF
      obtain ⟨rx, nb, o, hS, hnl, hO, hgk, hgl, HP, hF⟩ := hrel
      obtain ⟨gn, cn, hvn, hcn, q3, f3, n3⟩ := hS.rat (i := 3) (k := u) (by decide) (by show u < nb.length; omega)
      have c4 := hS.cr (i := 3) (by decide)
      have e3 : (dat ({ s with path := s.path.dropLast, last := s.last + 1, number := nb, opn := o } : SS) 3).length = n := hnl
      rw [hvn, e3] at c4
      rw [e3] at hcn hvn
      change wr.cell? _ = some (iV (gt nb u)) at q3
      by_cases hz : gt nb u = 0
      · rw [hz] at q3
        rcases path_cases o with ho0 | ⟨o', x, ho'⟩
        · have := hO.1 hz
          rw [ho0] at this
          exact absurd this List.not_mem_nil
        subst ho'
        have hx : x < n := hO.2 x (by simp)
        obtain ⟨gn', cn', hvn', -, qx, fx, -⟩ := hS.rat (i := 3) (k := x) (by decide) (by show x < nb.length; omega)
        rw [hvn, e3] at hvn'
        cases hvn'
        obtain ⟨go, co, hvo, hco, q5, f5, n5⟩ := hS.rat (i := 5) (k := o'.length) (by decide) (by show o'.length < (o' ++ [x]).length; simp)
        have e5 : (dat ({ s with path := s.path.dropLast, last := s.last + 1, number := nb, opn := o' ++ [x] } : SS) 5).length = o'.length + 1 := by show (o' ++ [x]).length = _; simp
        have c6 := hS.cr (i := 5) (by decide)
        have z6 := hS.fz 6
        have c8 := hS.c8
        change wr.cell? _ = some (.int .i64 ((s.last + 1 : Nat) : Int)) at c8
        rw [hvo, e5] at c6
        rw [e5] at hco hvo
        have hgx : gt (o' ++ [x]) o'.length = x := by rw [gt_at (by simp)]; simp
        change wr.cell? _ = some (iV (gt (o' ++ [x]) o'.length)) at q5
        rw [hgx] at q5
        have hM1 := hS.put (i := 3) (by decide) hvn (j := x) (by show x < nb.length; omega) (s.last + 1) (s' := { s with path := s.path.dropLast, last := s.last + 1, number := nb.set x (s.last + 1), opn := o' ++ [x] }) rfl rfl rfl (fun k hk hk0 => by match k, hk with | 0, _ => rfl | 1, _ => rfl | 2, _ => rfl | 3, _ => exact absurd rfl hk0 | 4, _ => rfl | 5, _ => rfl)
        have hF1 := hS.putF (i := 3) (by decide) hvn x (iV (s.last + 1))
        have hM2 := hM1.cutp (i := 5) (.inr rfl) hvo (k := o'.length) (by show o'.length ≤ (o' ++ [x]).length; simp) (s' := { s with path := s.path.dropLast, last := s.last + 1, number := nb.set x (s.last + 1), opn := o' }) rfl rfl (fun k hk hk0 => by match k, hk with | 0, _ => rfl | 1, _ => rfl | 2, _ => rfl | 3, _ => rfl | 4, _ => rfl | 5, _ => exact absurd rfl hk0) (by show o' = (o' ++ [x]).take o'.length; simp)
        have hON := opn_pop (n := s.last + 1) (by omega) hnl hO
        have HPN : Hid (popR u (s.last + 1) o'.reverse (nb.set x (s.last + 1)) = popR u (s.last + 1) s.opn.reverse s.number) := Lib.hid (by
          rw [← HP.out, List.reverse_append]
          exact (popR_go hz).symm)
        obtain ⟨m1, hm1⟩ : ∃ m, o'.length = m := ⟨_, rfl⟩
        have hgm : m1 + 1 = gk := by rw [← hgk, ← hm1]; simp
        rw [hm1] at c6 hco hM2 q5
        have HM1 := Lib.hid hm1
        have HM2 := Lib.hid hM2
        have HF1 := Lib.hid ((hF.trans hF1).trans (FG.blk _ B b 6 (.slice (some ⟨go, 0, none⟩) m1 co)))
        have hx1 : (x : Int) < (n : Int) := by omega
        have hx2 : (0 : Int) ≤ (x : Int) := Int.natCast_nonneg x
        have hx3 : (x : Int).toNat = x := Int.toNat_natCast x
        have hmz : m1 + 1 ≤ 1000000000 := by omega
        have hwm : IntKind.i64.wrap (m1 : Int) = (m1 : Int) := IntWalk.i64_in _ (by omega)
        have hw5 : (0 : Int) ≤ (m1 : Int) := Int.natCast_nonneg m1
        have hw6 : (m1 : Int).toNat = m1 := Int.toNat_natCast m1
        have hw2 : (m1 : Int) < (m1 : Int) + 1 := by omega
        have hw7 : (m1 : Int) ≤ (co : Int) := by omega
        have hw8 : m1 ≤ co := by omega
        have hw9 : ¬ co = 0 := by omega
        have HGM := Lib.hid hgm
        clear hM1 hM2 hm1 hvo hvn e3 e5 hgx hgk hgm
        go_wp2
        go_region
        go_wp2
        go_roundg m1
        case rel => exact ⟨upd rx 5 (.slice (some ⟨go, 0, none⟩) m1 co), nb.set x (s.last + 1), o', HM2.out.same ((Only.refl _ _).drew), by rw [List.length_set]; exact hnl, hON, HM1.out, by have := HGM.out; omega, HPN, HF1.out.trans (FG.keep ((Only.refl _ _).drew))⟩
        case measure => have := HGM.out; omega
      · obtain ⟨nn, hnn⟩ : ∃ k, gt nb u = k := ⟨_, rfl⟩
        have hz1 : ((nn : Int) == 0) = false := by rw [← hnn]; simp; omega
        have HR : Hid (leaveS s u = { s with path := s.path.dropLast, last := s.last + 1, number := nb, opn := o }) := Lib.hid (by
          rw [leave_zero HNLO.out, ← HP.out, popR_stop hz]
          simp)
        rw [hnn] at q3
        clear hnn hvn e3 hz
        go_wp2
        go_end0
        rw [HR.out]
        exact ⟨rfl, rx, hS, hF⟩
end
end Go.Proofs.YtigmdiagdlbdpaaGreat
