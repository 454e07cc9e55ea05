/-
  The reference's supply in memory: what its blocks hold; Take; NewSupply.
-/
import Derived.Test.YtniejaachfhkdaaGreatDoorHas
import Derived.Maps.AppendAt
import Derived.OneCell
namespace Go.Proofs.YtniejaachfhkdaaGreatDoor
open Go.RowKit Go.Maps
theorem infoStr : (Tryz.prog.info? 9).map (fun i => (i.zero, i.size, i.bytes)) = some (some (.string ⟨#[]⟩), 1, 16) := by kernel_rfl
theorem one_str (x : ByteArray) : ∀ u ∈ [Value.string x], u.oneCell' = true := by
  intro u hu; simp at hu; subst hu; rfl
theorem hasL_eq (ns : List ByteArray) (U : List (List UInt8)) (h : ∀ x, U.contains x = ns.any (fun y => y.data.toList == x)) (s : ByteArray) : hasL ns s = U.contains s.data.toList := by
  rw [h, hasL]
  congr 1
  funext x
  rw [Lib.toList_data, Lib.toList_data]
/-- The reference's supply at r, its slice v, its names ns. -/
structure RS (W : World) (r : Nat) (v : Value) (ns : List ByteArray) (w : World) : Prop where
  q : Q W w
  lr : W.heap.size ≤ r
  blk : w.heap[r]? = some (.cells #[.bool true, v] 69 (0, 0))
  own : w.ownsRow W.heap.size 9 1 v ns.length (ns.map Value.string)
  ne : v.ownBlock ≠ some r
/-- The blocks that a call on it may turn. -/
def rK (r : Nat) (v : Value) : Nat → Prop := fun i => i = r ∨ v.ownBlock = some i
theorem row_keep {w w' : World} {B n size : Nat} {e : TypeId} {v : Value} {xs : List Value} (h : w.ownsRow B e size v n xs) (hb : ∀ g, v.ownBlock = some g → w'.heap[g]? = w.heap[g]?) : w'.ownsRow B e size v n xs := by
  obtain ⟨h1, h2⟩ := h
  refine ⟨h1, ?_⟩
  rcases h2 with hn | ⟨g, cap, cur, hv, hB, hg, hr⟩
  · exact .inl hn
  · refine .inr ⟨g, cap, cur, hv, hB, ?_, hr⟩
    rw [hb g (by rw [hv]; rfl)]; exact hg
theorem row_form {w : World} {B n size : Nat} {e : TypeId} {v : Value} {xs : List Value} (h : w.ownsRow B e size v n xs) : ∃ oa ca, v = .slice oa n ca := by
  rcases h.2 with ⟨hv, hn⟩ | ⟨g, cap, cur, hv, -⟩
  · exact ⟨none, 0, by rw [hn]; exact hv⟩
  · exact ⟨some ⟨g, 0, none⟩, cap, hv⟩
theorem RS.only {W w w' : World} {r v ns} {K : Nat → Prop} (h : RS W r v ns w) (ho : Only K w w') (hk : ∀ i, K i → W.heap.size ≤ i) (hp : ∀ i, K i → ¬ rK r v i) : RS W r v ns w' :=
  ⟨h.q.only ho hk, h.lr, (ho.block r (lt_of_block h.blk) (fun hc => hp r hc (.inl rfl))).trans h.blk,
   row_keep h.own (fun g hg => ho.block g ((h.own.lt g hg).2) (fun hc => hp g hc (.inr hg))), h.ne⟩
theorem RS.below {W w w' : World} {r v ns} (h : RS W r v ns w) (hb : Below w.heap.size w w') : RS W r v ns w' :=
  ⟨h.q.below hb, h.lr, (hb.block r (lt_of_block h.blk)).trans h.blk, row_keep h.own (fun g hg => hb.block g (h.own.lt g hg).2), h.ne⟩
theorem RS.lts {W w : World} {r v ns} (h : RS W r v ns w) : ∀ i, rK r v i → W.heap.size ≤ i ∧ i < w.heap.size := by
  rintro i (rfl | hi)
  · exact ⟨h.lr, lt_of_block h.blk⟩
  · exact h.own.lt i hi
theorem RS.cell0 {W w : World} {r v ns} (h : RS W r v ns w) : w.cell? ⟨r, 0, none⟩ = some (.bool true) := by simp [World.cell?, h.blk]
theorem RS.cell1 {W w : World} {r v ns} (h : RS W r v ns w) : w.cell? ⟨r, 1, none⟩ = some v := by simp [World.cell?, h.blk]
theorem RS.form {W w : World} {r v ns} (h : RS W r v ns w) : ∃ oa ca, v = .slice oa ns.length ca := by
  rcases h.own.2 with ⟨hv, hn⟩ | ⟨g, cap, cur, hv, -⟩
  · exact ⟨none, 0, by rw [hn]; exact hv⟩
  · exact ⟨some ⟨g, 0, none⟩, cap, hv⟩
theorem RS.strs {W w : World} {r ca k : Nat} {oa : Option Addr} {ns} (h : RS W r (.slice oa k ca) ns w) : Strs w oa ns.length ns := by
  refine ⟨rfl, fun i hi => ?_⟩
  rcases h.own.2 with ⟨hv, hn⟩ | ⟨g, cap, cur, hv, hb, hg, hr⟩
  · omega
  · cases hv
    refine ⟨g, 0, rfl, ?_, lt_of_block hg⟩
    have := h.own.cellAt i (by omega)
    rw [Nat.zero_add, this]
    simp [hi]
theorem block_setCell {w : World} {r : Nat} {t : TypeId} {a b c : Value} (h : w.heap[r]? = some (.cells #[a, b] t (0, 0))) : (w.setCell ⟨r, 1, none⟩ c).heap[r]? = some (.cells #[a, c] t (0, 0)) := by
  simp [World.setCell, Array.getElem?_modify, h]
theorem RS.after {W w w' : World} {r : Nat} {v : Value} {ns : List ByteArray} {o : Obj} (h : RS W r v ns w) (hg : (w.alloc o).grownBy w' v.ownBlock) :
    w'.cell? ⟨r, 1, none⟩ = some v ∧ w'.frozen? ⟨r, 1, none⟩ = false := by
  have hr := lt_of_block h.blk
  have hb1 : w'.heap[r]? = some (.cells #[.bool true, v] 69 (0, 0)) := (hg.block r (by simp; omega) (fun e => h.ne e.symm)).trans ((Below.heap_alloc _ _ _ hr).trans h.blk)
  exact ⟨by simp [World.cell?, hb1], by simp [World.frozen?, hb1]⟩
/-- Behind an append to the field's slice, and the store. -/
theorem RS.stored {W w wa w' : World} {r : Nat} {v v' : Value} {ns : List ByteArray} {s : ByteArray} (h : RS W r v ns w) (hba : Below w.heap.size w wa)
    (hown : w'.ownsRow W.heap.size 9 1 v' (ns.length + 1) (ns.map Value.string ++ [Value.string s])) (hg : wa.grownBy w' v.ownBlock) (hv : v'.ownBlock = v.ownBlock ∨ v'.ownBlock = some wa.heap.size) :
    RS W r v' (ns ++ [s]) (w'.setCell ⟨r, 1, none⟩ v') ∧ Only (rK r v) w (w'.setCell ⟨r, 1, none⟩ v') := by
  have hr := lt_of_block h.blk
  have hra : r < wa.heap.size := Nat.lt_of_lt_of_le hr hba.size
  have hb1 : w'.heap[r]? = some (.cells #[.bool true, v] 69 (0, 0)) := (hg.block r hra (fun e => h.ne e.symm)).trans ((hba.block r hr).trans h.blk)
  have hne : v'.ownBlock ≠ some r := by
    rcases hv with hv | hv <;> rw [hv]
    · exact h.ne
    · intro e; injection e with e; omega
  have hO : Only (rK r v) w (w'.setCell ⟨r, 1, none⟩ v') := by
    refine ⟨hg.os.trans hba.os, hg.tape.trans hba.tape, hg.output.trans hba.output, ?_, fun k hk hn => ?_⟩
    · have : w.heap.size ≤ w'.heap.size := Nat.le_trans hba.size hg.size
      simpa [World.setCell] using this
    · rw [Below.heap_setCell _ _ _ _ (fun e => hn (.inl e)), hg.block k (Nat.lt_of_lt_of_le hk hba.size) (fun e => hn (.inr e.symm)), hba.block k hk]
  refine ⟨⟨h.q.only hO (fun i hi => (h.lts i hi).1), h.lr, block_setCell hb1, ?_, hne⟩, hO⟩
  have : w'.ownsRow W.heap.size 9 1 v' (ns ++ [s]).length ((ns ++ [s]).map Value.string) := by simpa using hown
  exact row_keep this (fun g hg' => Below.heap_setCell _ _ _ _ (fun e => hne (by rw [hg', e])))
end Go.Proofs.YtniejaachfhkdaaGreatDoor
