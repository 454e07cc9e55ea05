/-
  WALKS. The graph: what ordered's first loops keep.
-/
import Derived.Test.YtigmdiagdlbdpaaGreatGbR
import Derived.Test.YtigmdiagdlbdpaaGreatGor
import Derived.Test.YtigmdiagdlbdpaaGreatGbJ
namespace Go.Proofs.YtigmdiagdlbdpaaGreat
open Go.RowKit Go.Maps
theorem zR_list (n : Nat) : (madeCells #[nilV] n).toList = List.replicate n nilV := by
  rw [toList_madeCells_one]
theorem zR_size (n : Nat) : (madeCells #[nilV] n).size = n := by
  have := congrArg List.length (zR_list n)
  rw [List.length_replicate] at this
  simpa using this
abbrev zRO (n : Nat) : Obj := .cells (madeCells #[nilV] n) 55
theorem mk_rows {n : Nat} (hn : n ≤ 1000000000) (w : World) : (Instr.makeSlice 47 (.int .i64 (n : Int)) (.int .i64 (n : Int))).run Tryz.prog w = .ok (.slice (some ⟨w.heap.size, 0, none⟩) n n) (w.alloc (zRO n)) := by
  obtain ⟨i0', hi, hz0, hz1, hz2⟩ := info_parts infoInts
  have := run_make (P := Tryz.prog) w 47 55 i0' nilV Tryz.underlying47 hi hz0 .i64 .i64 (n : Int) (n : Int) (by omega) (Int.le_refl _) (by rw [hz2]; omega) (by omega)
  rw [hz1] at this
  simpa [Value.cells] using this
theorem vAt_rep {n i : Nat} : vAt (List.replicate n nilV) i = nilV := by
  show (List.replicate n nilV).getD i nilV = nilV
  rw [List.getD_eq_getElem?_getD, List.getElem?_replicate]
  split <;> rfl
theorem lAt_rep {n i : Nat} : lAt (List.replicate n []) i = [] := by
  show (List.replicate n ([] : List Nat)).getD i [] = []
  rw [List.getD_eq_getElem?_getD, List.getElem?_replicate]
  split <;> rfl
theorem RR.made {w : World} {B g n : Nat} (hB : B ≤ g) (hg : w.heap[g]? = some (.cells (madeCells #[nilV] n) 55 (0, 0))) (hn : n ≤ 1000000000) : RR w B (.slice (some ⟨g, 0, none⟩) n n) (List.replicate n nilV) (List.replicate n []) := by
  have hz : (List.replicate n ([] : List Nat)).length = n := List.length_replicate
  refine ⟨⟨by rw [List.length_replicate, hz]; omega, .inr ⟨g, n, _, by rw [hz], hB, hg, by rw [hz]; exact Nat.le_refl _, by unfold maxLen; omega, by rw [zR_size]; omega, ?_⟩⟩, fun i hi => ?_, fun i j _ _ _ g' h1 => ?_⟩
  · rw [zR_list, hz, Nat.mul_one, List.take_of_length_le (by rw [List.length_replicate]; exact Nat.le_refl _)]
  · rw [vAt_rep, lAt_rep]
    exact World.ownsRow_nil _ _ _ _
  · rw [vAt_rep] at h1
    cases h1
/-- What the first loops keep: users and waits. -/
structure UM (w0 w : World) (m : Nat) (vs : List Value) (s : OU) : Prop where
  rr : RR w w0.heap.size (.slice (some ⟨w0.heap.size, 0, none⟩) m m) vs s.users
  wt : IR w w0.heap.size (.slice (some ⟨w0.heap.size + 1, 0, none⟩) m m) s.waits
  ap : ∀ i, i < s.users.length → (vAt vs i).ownBlock ≠ some (w0.heap.size + 1)
  fr : Only (w0.heap.size ≤ ·) w0 w
section
variable {w0 w w' : World} {m : Nat} {vs : List Value} {s : OU}
theorem UM.same (h : UM w0 w m vs s) (ho : Only (fun _ => False) w w') : UM w0 w' m vs s :=
  ⟨h.rr.only ho (fun _ _ _ hc => hc), h.wt.only ho (fun _ _ hc => hc), h.ap, h.fr.trans ho.lift⟩
theorem UM.setW (h : UM w0 w m vs s) {j : Nat} (hj : j < s.waits.length) (x : Nat) : UM w0 (w.setCell ⟨w0.heap.size + 1, j, none⟩ (iV x)) m vs { s with waits := s.waits.set j x } := by
  have hO : Only (· = w0.heap.size + 1) w (w.setCell ⟨w0.heap.size + 1, j, none⟩ (iV x)) := Only.setCell (K := (· = w0.heap.size + 1)) (Only.refl _ _) rfl _
  refine ⟨⟨rowKeep h.rr.out (fun g hg => hO.block g (World.ownsRow.lt h.rr.out g hg).2 (fun hc => by have hg' : w0.heap.size = g := Option.some.inj hg; omega)), fun i hi => (h.rr.row i hi).only hO (fun g hg hc => h.ap i hi (by rw [hg, hc])), h.rr.dis⟩, IR.set h.wt hj x, h.ap, h.fr.trans (hO.wide (fun i hi => by show w0.heap.size ≤ i; omega))⟩
theorem UM.app {p : Nat} (h : UM w0 w m vs s) (hp : p < s.users.length) {v0 : Value} (hv0 : vAt vs p = v0) {w3 : World} (hg : w.grownBy w3 v0.ownBlock) {v' : Value} {l' : List Nat} (hrow : IR w3 w0.heap.size v' l') (hb : ∀ g, v'.ownBlock = some g → v0.ownBlock = some g ∨ w.heap.size ≤ g) :
    UM w0 (w3.setCell ⟨w0.heap.size, p, none⟩ v') m (vs.set p v') { s with users := s.users.set p l' } := by
  subst hv0
  have hn0 : m = s.users.length := by
    obtain ⟨_, _, hv⟩ := rowForm h.rr.out
    cases hv; rfl
  have hrr := h.rr
  rw [hn0] at hrr
  have hlw : w0.heap.size + 1 < w.heap.size := (World.ownsRow.lt h.wt _ rfl).2
  have hO : Only (· = w0.heap.size) w3 (w3.setCell ⟨w0.heap.size, p, none⟩ v') := Only.setCell (K := (· = w0.heap.size)) (Only.refl _ _) rfl _
  have hvl : p < vs.length := by rw [h.rr.vl]; exact hp
  refine ⟨?_, (show IR w3 _ _ _ from rowKeep h.wt (fun g hgi => hg.block g (World.ownsRow.lt h.wt g hgi).2 (fun e => ?_))).only hO (fun g hgi hc => ?_), fun i hi => ?_, ?_⟩
  · have := hrr.app hp hg hrow hb
    rw [hn0]
    exact this
  · have hg' : w0.heap.size + 1 = g := Option.some.inj hgi
    subst hg'
    exact h.ap p hp e.symm
  · have hg' : w0.heap.size + 1 = g := Option.some.inj hgi
    omega
  · change i < (s.users.set p l').length at hi
    rw [List.length_set] at hi
    rw [vAt_set hvl]
    split
    · intro e
      rcases hb _ e with h1 | h1
      · exact h.ap p hp h1
      · omega
    · exact h.ap i hi
  · exact (h.fr.trans (Only.grown hg (fun g e => (World.ownsRow.lt (h.rr.row p hp) g e.symm.symm).1))).trans (hO.wide (fun i hi => by show w0.heap.size ≤ i; omega))
theorem UM.old {K : Nat → Prop} (h : UM w0 w m vs s) (ho : Only K w w') (hk : ∀ i, i < w.heap.size → ¬ K i) : UM w0 w' m vs s :=
  ⟨h.rr.only ho (fun i _ hi => hk i hi), h.wt.only ho (fun g hg => hk g (World.ownsRow.lt h.wt g hg).2), h.ap, ⟨ho.os.trans h.fr.os, ho.tape.trans h.fr.tape, ho.output.trans h.fr.output, Nat.le_trans h.fr.size ho.size, fun i hi hc => (ho.block i (Nat.lt_of_lt_of_le hi h.fr.size) (hk i (Nat.lt_of_lt_of_le hi h.fr.size))).trans (h.fr.block i hi hc)⟩⟩
theorem UM.made {w0 : World} {m : Nat} (hm : m ≤ 1000000000) : UM w0 ((w0.alloc (zRO m)).alloc (zO m)) m (List.replicate m nilV) ⟨List.replicate m [], zeros m⟩ := by
  have s1 : (w0.alloc (zRO m)).heap.size = w0.heap.size + 1 := by show (Array.push _ _).size = _; rw [Array.size_push]
  refine ⟨(RR.made (Nat.le_refl _) (new_block w0 _) hm).only (K := fun _ => False) ((Only.refl _ _).alloc _) (fun _ _ _ hc => hc), IR.made (by omega) (new_at _ s1) hm, fun i _ => ?_, ((Only.refl _ _).alloc _).alloc _⟩
  rw [vAt_rep]
  intro e
  cases e
end
end Go.Proofs.YtigmdiagdlbdpaaGreat
