/-
  WALKS. A row of rows of numbers of the call's own.
-/
import Derived.Test.YtigmdiagdlbdpaaGreatGbF
import Derived.Test.YtigmdiagdlbdpaaGreatGor
namespace Go.Proofs.YtigmdiagdlbdpaaGreat
open Go.RowKit Go.Maps
theorem infoInts : (Tryz.prog.info? 55).map (fun i => (i.zero, i.size, i.bytes)) = some (some (.slice none 0 0), 1, 24) := by kernel_rfl
abbrev nilV : Value := .slice none 0 0
abbrev vAt (vs : List Value) (i : Nat) : Value := vs.getD i nilV
structure RR (w : World) (B : Nat) (v : Value) (vs : List Value) (L : List (List Nat)) : Prop where
  out : w.ownsRow B 55 1 v L.length vs
  row : ∀ i, i < L.length → IR w B (vAt vs i) (lAt L i)
  dis : ∀ i j, i < L.length → j < L.length → i ≠ j → ∀ g, (vAt vs i).ownBlock = some g → (vAt vs j).ownBlock ≠ some g
section
variable {w w' w3 : World} {B : Nat} {v : Value} {vs : List Value} {L : List (List Nat)}
theorem RR.nil (w : World) (B : Nat) : RR w B nilV [] [] := ⟨World.ownsRow_nil _ _ _ _, fun _ h => absurd h (by simp), fun _ _ h => absurd h (by simp)⟩
theorem RR.vl (h : RR w B v vs L) : vs.length = L.length := by have := h.out.1; omega
theorem RR.only {K : Nat → Prop} (h : RR w B v vs L) (ho : Only K w w') (hk : ∀ i, B ≤ i → i < w.heap.size → ¬ K i) : RR w' B v vs L :=
  ⟨rowKeep h.out (fun g hg => ho.block g ((World.ownsRow.lt h.out g hg).2) (hk g (World.ownsRow.lt h.out g hg).1 (World.ownsRow.lt h.out g hg).2)), fun i hi => (h.row i hi).only ho (fun g hg => hk g (World.ownsRow.lt (h.row i hi) g hg).1 (World.ownsRow.lt (h.row i hi) g hg).2), h.dis⟩
theorem RR.at (h : RR w B v vs L) {i : Nat} (hi : i < L.length) : ∃ g ca, v = .slice (some ⟨g, 0, none⟩) L.length ca ∧ B ≤ g ∧ L.length ≤ ca ∧ w.cell? ⟨g, i, none⟩ = some (vAt vs i) ∧ w.frozen? ⟨g, i, none⟩ = false := by
  rcases h.out.2 with ⟨hv, hn⟩ | ⟨g, cap, cur, hv, hb, hg, hle, hr⟩
  · omega
  · subst hv
    refine ⟨g, cap, rfl, hb, hle, ?_, by simp [World.frozen?, hg]⟩
    have hil : i < vs.length := by rw [h.vl]; exact hi
    have e : vAt vs i = vs[i] := by show vs.getD i nilV = _; rw [List.getD_eq_getElem?_getD, List.getElem?_eq_getElem hil]; rfl
    have hc := World.ownsRow.cells h.out (g := g) rfl i (vs[i]) (List.getElem?_eq_getElem hil)
    rw [add_plain, Nat.zero_add] at hc
    rw [e]
    exact hc
/-- The outer row's block is none of the inner ones. -/
theorem RR.ne (h : RR w B v vs L) {i : Nat} (hi : i < L.length) {g : Nat} (hg : (vAt vs i).ownBlock = some g) : v.ownBlock ≠ some g := rowApart (h.row i hi) h.out (by decide) hg
theorem vAt_app {vs : List Value} {x : Value} {i : Nat} (h : i < vs.length) : vAt (vs ++ [x]) i = vAt vs i := by
  show (vs ++ [x]).getD i nilV = vs.getD i nilV
  rw [List.getD_eq_getElem?_getD, List.getD_eq_getElem?_getD, List.getElem?_append_left h]
theorem vAt_end {vs : List Value} {x : Value} : vAt (vs ++ [x]) vs.length = x := by
  show (vs ++ [x]).getD vs.length nilV = x
  rw [List.getD_eq_getElem?_getD, List.getElem?_append_right (Nat.le_refl _), Nat.sub_self]; rfl
theorem vAt_set {vs : List Value} {x : Value} {p i : Nat} (h : p < vs.length) : vAt (vs.set p x) i = if i = p then x else vAt vs i := by
  show (vs.set p x).getD i nilV = _
  rw [List.getD_eq_getElem?_getD, List.getElem?_set]
  by_cases e : p = i
  · subst e; simp [h]
  · rw [if_neg e, if_neg (fun e' => e e'.symm)]; show _ = vs.getD i nilV; rw [List.getD_eq_getElem?_getD]
/-- An empty row is put at the end. -/
theorem RR.push (h : RR w B v vs L) (hg : w.grownBy w3 v.ownBlock) {v' : Value} (hrow : w3.ownsRow B 55 1 v' (L.length + 1) (vs ++ [nilV])) : RR w3 B v' (vs ++ [nilV]) (L ++ [[]]) := by
  have hl : (L ++ [[]]).length = L.length + 1 := by simp
  have hvl := h.vl
  refine ⟨by rw [hl]; exact hrow, fun i hi => ?_, fun i j hi hj hij g hgi hgj => ?_⟩
  · rw [hl] at hi
    by_cases e : i = L.length
    · subst e
      rw [lAt_end, ← hvl, vAt_end]
      exact World.ownsRow_nil _ _ _ _
    · have hi' : i < L.length := by omega
      rw [lAt_app hi', vAt_app (by omega)]
      exact rowKeep (h.row i hi') (fun g hgi => hg.block g (World.ownsRow.lt (h.row i hi') g hgi).2 (fun e' => h.ne hi' hgi e'.symm))
  · rw [hl] at hi hj
    by_cases e : i = L.length
    · subst e
      rw [← hvl, vAt_end] at hgi
      cases hgi
    · by_cases e2 : j = L.length
      · subst e2
        rw [← hvl, vAt_end] at hgj
        cases hgj
      · rw [vAt_app (by omega)] at hgi hgj
        exact h.dis i j (by omega) (by omega) hij g hgi hgj
/-- A row grows in its place. -/
theorem RR.app {p g0 ca : Nat} (h : RR w B (.slice (some ⟨g0, 0, none⟩) L.length ca) vs L) (hp : p < L.length) (hg : w.grownBy w3 (vAt vs p).ownBlock) {v' : Value} {l' : List Nat} (hrow : IR w3 B v' l') (hb : ∀ g, v'.ownBlock = some g → (vAt vs p).ownBlock = some g ∨ w.heap.size ≤ g) :
    RR (w3.setCell ⟨g0, p, none⟩ v') B (.slice (some ⟨g0, 0, none⟩) L.length ca) (vs.set p v') (L.set p l') := by
  have hl : (L.set p l').length = L.length := List.length_set
  have hvl := h.vl
  have hpv : p < vs.length := by omega
  have hout3 : w3.ownsRow B 55 1 (.slice (some ⟨g0, 0, none⟩) L.length ca) L.length vs := rowKeep h.out (fun g hgi => hg.block g (World.ownsRow.lt h.out g hgi).2 (fun e => h.ne hp e.symm hgi))
  have hO : Only (· = g0) w3 (w3.setCell ⟨g0, p, none⟩ v') := Only.setCell (K := (· = g0)) (Only.refl _ _) rfl _
  have hold : ∀ i, i < L.length → i ≠ p → IR w3 B (vAt vs i) (lAt L i) := fun i hi hip => rowKeep (h.row i hi) (fun g hgi => hg.block g (World.ownsRow.lt (h.row i hi) g hgi).2 (fun e => h.dis i p hi hp hip g hgi e.symm))
  have hapart : ∀ {v'' l''}, IR w3 B v'' l'' → ∀ g, v''.ownBlock = some g → ¬ g = g0 := fun hr g hgv e => rowApart hr hout3 (by decide) hgv (by rw [e]; rfl)
  refine ⟨by rw [hl]; exact row_set hout3 (by omega) v', fun i hi => ?_, fun i j hi hj hij g hgi hgj => ?_⟩
  · rw [hl] at hi
    rw [vAt_set hpv, lAt_set hp]
    by_cases e : i = p
    · rw [if_pos e, if_pos e]
      exact hrow.only hO (hapart hrow)
    · rw [if_neg e, if_neg e]
      exact (hold i hi e).only hO (hapart (hold i hi e))
  · rw [hl] at hi hj
    rw [vAt_set hpv] at hgi hgj
    have key : ∀ j, j < L.length → j ≠ p → v'.ownBlock = some g → (vAt vs j).ownBlock = some g → False := fun j hj hjp h1 h2 => by
      rcases hb g h1 with h3 | h3
      · exact h.dis j p hj hp hjp g h2 h3
      · have := (World.ownsRow.lt (h.row j hj) g h2).2; omega
    by_cases e : i = p
    · rw [if_pos e] at hgi
      have hjp : j ≠ p := fun e' => hij (e.trans e'.symm)
      rw [if_neg hjp] at hgj
      exact key j hj hjp hgi hgj
    · rw [if_neg e] at hgi
      by_cases e2 : j = p
      · rw [if_pos e2] at hgj
        exact key i hi e hgj hgi
      · rw [if_neg e2] at hgj
        exact h.dis i j hi hj hij g hgi hgj
theorem IR.ints {ns : List Nat} {oa : Option Addr} {n ca : Nat} (h : IR w B (.slice oa n ca) ns) : Ints w oa n ns :=
  ⟨h.len.symm, fun k hk => by
    obtain ⟨g, hg, -, -, -, hc, -⟩ := h.at hk
    refine ⟨g, 0, hg, ?_⟩
    rw [Nat.zero_add]
    exact hc⟩
/-- Read, it is a graph. -/
theorem RR.edg {oa : Option Addr} {n ca : Nat} (h : RR w B (.slice oa n ca) vs L) : Edg w oa n L := by
  obtain ⟨oa', ca', hv⟩ := rowForm h.out
  cases hv
  refine ⟨rfl, fun k hk => ?_⟩
  obtain ⟨g, ca2, hv, -, -, hc, -⟩ := h.at hk
  cases hv
  have hr := h.row k hk
  obtain ⟨ra, rc, e⟩ := rowForm hr
  have e2 : lAt L k = L[k] := by show L.getD k [] = _; rw [List.getD_eq_getElem?_getD, List.getElem?_eq_getElem hk]; rfl
  rw [e] at hc hr
  rw [e2] at hr hc
  exact ⟨g, 0, ra, _, rc, rfl, by rw [Nat.zero_add]; exact hc, hr.ints⟩
end
/-- A slice of numbers and a graph, read, in blocks from B on. -/
structure IntsB (w : World) (B : Nat) (oa : Option Addr) (n : Nat) (l : List Nat) : Prop where
  len : l.length = n
  cell : ∀ k, k < l.length → ∃ b o, oa = some ⟨b, o, none⟩ ∧ B ≤ b ∧ w.cell? ⟨b, o + k, none⟩ = some (iV (gt l k))
structure EdgB (w : World) (B : Nat) (oa : Option Addr) (n : Nat) (G : List (List Nat)) : Prop where
  len : G.length = n
  cell : ∀ k, k < G.length → ∃ b o ra rn rc, oa = some ⟨b, o, none⟩ ∧ B ≤ b ∧ w.cell? ⟨b, o + k, none⟩ = some (.slice ra rn rc) ∧ IntsB w B ra rn (lAt G k)
section
variable {w w' : World} {B B' : Nat} {oa : Option Addr} {n : Nat} {l : List Nat} {G : List (List Nat)}
theorem IntsB.ints (h : IntsB w B oa n l) : Ints w oa n l := ⟨h.len, fun k hk => by obtain ⟨b, o, e, -, hc⟩ := h.cell k hk; exact ⟨b, o, e, hc⟩⟩
theorem EdgB.edg (h : EdgB w B oa n G) : Edg w oa n G := ⟨h.len, fun k hk => by
  obtain ⟨b, o, ra, rn, rc, e, -, hc, hi⟩ := h.cell k hk
  have e2 : lAt G k = G[k] := by show G.getD k [] = _; rw [List.getD_eq_getElem?_getD, List.getElem?_eq_getElem hk]; rfl
  rw [e2] at hi
  exact ⟨b, o, ra, rn, rc, e, hc, hi.ints⟩⟩
theorem IntsB.old {K : Nat → Prop} (h : IntsB w B oa n l) (ho : Only K w w') (hk : ∀ i, B ≤ i → i < w.heap.size → ¬ K i) : IntsB w' B oa n l :=
  ⟨h.len, fun k hl => by
    obtain ⟨b, o, e, hB, hc⟩ := h.cell k hl
    have hb := cell_lt hc
    exact ⟨b, o, e, hB, (World.cell?_of_block (ho.block b hb (hk b hB hb))).trans hc⟩⟩
theorem EdgB.old {K : Nat → Prop} (h : EdgB w B oa n G) (ho : Only K w w') (hk : ∀ i, B ≤ i → i < w.heap.size → ¬ K i) : EdgB w' B oa n G :=
  ⟨h.len, fun k hl => by
    obtain ⟨b, o, ra, rn, rc, e, hB, hc, hi⟩ := h.cell k hl
    have hb := cell_lt hc
    exact ⟨b, o, ra, rn, rc, e, hB, (World.cell?_of_block (ho.block b hb (hk b hB hb))).trans hc, hi.old ho hk⟩⟩
theorem IntsB.mono (h : IntsB w B oa n l) (hB : B' ≤ B) : IntsB w B' oa n l := ⟨h.len, fun k hk => by obtain ⟨b, o, e, h1, hc⟩ := h.cell k hk; exact ⟨b, o, e, Nat.le_trans hB h1, hc⟩⟩
theorem EdgB.mono (h : EdgB w B oa n G) (hB : B' ≤ B) : EdgB w B' oa n G := ⟨h.len, fun k hk => by obtain ⟨b, o, ra, rn, rc, e, h1, hc, hi⟩ := h.cell k hk; exact ⟨b, o, ra, rn, rc, e, Nat.le_trans hB h1, hc, hi.mono hB⟩⟩
theorem EdgB.nil (w : World) (B : Nat) : EdgB w B .none 0 [] := ⟨rfl, fun _k hk => absurd hk (Nat.not_lt_zero _)⟩
theorem IR.intsB {ns : List Nat} {n ca : Nat} (h : IR w B (.slice oa n ca) ns) : IntsB w B oa n ns :=
  ⟨h.len.symm, fun k hk => by
    obtain ⟨g, hg, hB, -, -, hc, -⟩ := h.at hk
    refine ⟨g, 0, hg, hB, ?_⟩
    rw [Nat.zero_add]
    exact hc⟩
theorem RR.edgB {vs : List Value} {L : List (List Nat)} {ca : Nat} (h : RR w B (.slice oa n ca) vs L) : EdgB w B oa n L := by
  obtain ⟨oa', ca', hv⟩ := rowForm h.out
  cases hv
  refine ⟨rfl, fun k hk => ?_⟩
  obtain ⟨g, ca2, hv, hB, -, hc, -⟩ := h.at hk
  cases hv
  have hr := h.row k hk
  obtain ⟨ra, rc, e⟩ := rowForm hr
  rw [e] at hc hr
  exact ⟨g, 0, ra, _, rc, rfl, hB, by rw [Nat.zero_add]; exact hc, hr.intsB⟩
end
end Go.Proofs.YtigmdiagdlbdpaaGreat
