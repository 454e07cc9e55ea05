/-
  WALKS. Rows of rows of names, of the call's own; the levels' nodes.
-/
import Derived.Test.YtigmdiagdlbdpaaGreatMgq
namespace Go.Proofs.YtigmdiagdlbdpaaGreat
open Go.RowKit Go.Maps
theorem infoStrs : (Tryz.prog.info? 25).map (fun i => (i.zero, i.size, i.bytes)) = some (some nilV, 1, 24) := by kernel_rfl
abbrev sLt (L : List (List Nm)) (i : Nat) : List Nm := L.getD i []
structure SRR (w : World) (B : Nat) (v : Value) (vs : List Value) (L : List (List Nm)) : Prop where
  out : w.ownsRow B 25 1 v L.length vs
  row : ∀ i, i < L.length → SR w B (vAt vs i) (sLt L i)
section
variable {w w' w3 : World} {B : Nat} {v : Value} {vs : List Value} {L : List (List Nm)}
theorem SRR.nil (w : World) (B : Nat) : SRR w B nilV [] [] := ⟨World.ownsRow_nil _ _ _ _, fun _ h => absurd h (Nat.not_lt_zero _)⟩
theorem SRR.vl (h : SRR w B v vs L) : vs.length = L.length := by have := h.out.1; omega
theorem SRR.only {K : Nat → Prop} (h : SRR w B v vs L) (ho : Only K w w') (hk : ∀ g, g < w.heap.size → B ≤ g → ¬ K g) : SRR w' B v vs L :=
  ⟨rowKeep h.out (fun g hg => ho.block g (World.ownsRow.lt h.out g hg).2 (hk g (World.ownsRow.lt h.out g hg).2 (World.ownsRow.lt h.out g hg).1)),
   fun i hi => (h.row i hi).only ho (fun g hg => hk g (World.ownsRow.lt (h.row i hi) g hg).2 (World.ownsRow.lt (h.row i hi) g hg).1)⟩
/-- A row is put at the end: the outer row may grow. -/
theorem SRR.push (h : SRR w B v vs L) (hg : w.grownBy w3 v.ownBlock) {v' x : Value} {l : List Nm} (hx : SR w B x l) (hrow : w3.ownsRow B 25 1 v' (L.length + 1) (vs ++ [x])) : SRR w3 B v' (vs ++ [x]) (L ++ [l]) := by
  have hvl := h.vl
  refine ⟨by rw [List.length_append, List.length_singleton]; exact hrow, fun i hi => ?_⟩
  rw [List.length_append, List.length_singleton] at hi
  by_cases e : i = L.length
  · subst e
    have e1 : sLt (L ++ [l]) L.length = l := by
      show (L ++ [l]).getD L.length [] = l
      rw [List.getD_eq_getElem?_getD, List.getElem?_append_right (Nat.le_refl _), Nat.sub_self]
      rfl
    have e2 : vAt (vs ++ [x]) L.length = x := by
      rw [← hvl]
      show (vs ++ [x]).getD vs.length nilV = x
      rw [List.getD_eq_getElem?_getD, List.getElem?_append_right (Nat.le_refl _), Nat.sub_self]
      rfl
    rw [e1, e2]
    exact rowKeep hx (fun b hb => hg.block b (World.ownsRow.lt hx b hb).2 (fun e => rowApart hx h.out (by decide) hb e.symm))
  · have e1 : sLt (L ++ [l]) i = sLt L i := by
      show (L ++ [l]).getD i [] = L.getD i []
      rw [List.getD_eq_getElem?_getD, List.getD_eq_getElem?_getD, List.getElem?_append_left (by omega)]
    rw [e1, vAt_app (by omega)]
    have hr := h.row i (by omega)
    exact rowKeep hr (fun b hb => hg.block b (World.ownsRow.lt hr b hb).2 (fun e => rowApart hr h.out (by decide) hb e.symm))
end
/-- A slice of slices of keys, read. -/
structure Srz (w : World) (oa : Option Addr) (n : Nat) (L : List (List Nm)) : Prop where
  len : L.length = n
  cell : ∀ k (hk : k < L.length), ∃ b o ra rn rc, oa = some ⟨b, o, none⟩ ∧ w.cell? ⟨b, o + k, none⟩ = some (.slice ra rn rc) ∧ Strz w ra rn L[k]
theorem SRR.srz {w : World} {B n ca : Nat} {oa : Option Addr} {vs : List Value} {L : List (List Nm)} (h : SRR w B (.slice oa n ca) vs L) : Srz w oa n L := by
  obtain ⟨oa', ca', hv⟩ := rowForm h.out
  cases hv
  refine ⟨rfl, fun k hk => ?_⟩
  rcases h.out.2 with ⟨hv, hn⟩ | ⟨g, cap, cur, hv, hb, hg, hle, hr⟩
  · omega
  · cases hv
    have hkl : k < vs.length := by rw [h.vl]; exact hk
    have e : vAt vs k = vs[k] := by show vs.getD k nilV = _; rw [List.getD_eq_getElem?_getD, List.getElem?_eq_getElem hkl]; rfl
    have hc := World.ownsRow.cells h.out (g := g) rfl k (vs[k]) (List.getElem?_eq_getElem hkl)
    rw [add_plain, Nat.zero_add, ← e] at hc
    have hrw := h.row k hk
    have e2 : sLt L k = L[k] := by show L.getD k [] = _; rw [List.getD_eq_getElem?_getD, List.getElem?_eq_getElem hk]; rfl
    rw [e2] at hrw
    obtain ⟨ra, rc, e3⟩ := rowForm hrw
    rw [e3] at hc hrw
    exact ⟨g, 0, ra, _, rc, rfl, by rw [Nat.zero_add]; exact hc, hrw.strz⟩
theorem mem_put {L : List (List Nat)} {v x i y : Nat} (h : y ∈ lat (putL L v x) i) : y ∈ lat L i ∨ y = x := by
  have hg : ∀ i, lAt (growL L v) i = lAt L i := fun i => by
    show (growL L v).getD i [] = L.getD i []
    unfold growL
    rw [List.getD_eq_getElem?_getD, List.getD_eq_getElem?_getD]
    by_cases hi : i < L.length
    · rw [List.getElem?_append_left hi]
    · rw [List.getElem?_append_right (by omega), List.getElem?_replicate, List.getElem?_eq_none (show L.length ≤ i by omega)]
      split <;> rfl
  have h' : y ∈ lAt ((growL L v).set v (lAt (growL L v) v ++ [x])) i := h
  by_cases hv : v < (growL L v).length
  · rw [lAt_set hv] at h'
    split at h'
    · rename_i e
      subst e
      rcases List.mem_append.1 h' with h1 | h1
      · left
        rw [hg] at h1
        exact h1
      · exact .inr (List.mem_singleton.1 h1)
    · left
      rw [hg] at h'
      exact h'
  · rw [List.set_eq_of_length_le (by omega)] at h'
    left
    rw [hg] at h'
    exact h'
theorem levK_mem (l : List Nat) : ∀ k i y, y ∈ lat (levK l k) i → y < k
  | 0, i, y, h => by
    have : lat (levK l 0) i = [] := by show ([] : List (List Nat)).getD i [] = []; rfl
    rw [this] at h
    cases h
  | k + 1, i, y, h => by
    have e : levK l (k + 1) = putL (levK l k) (gt l k) k := by
      unfold levK
      rw [List.range_succ, List.foldl_append]
      rfl
    rw [e] at h
    rcases mem_put h with h1 | h1
    · have := levK_mem l k i y h1
      omega
    · omega
end Go.Proofs.YtigmdiagdlbdpaaGreat
