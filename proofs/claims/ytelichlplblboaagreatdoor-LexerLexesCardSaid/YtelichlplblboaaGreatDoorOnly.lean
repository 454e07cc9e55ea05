/-
  What a call leaves alone: all blocks but some, and new ones.
-/
import Derived.Test.YtelichlplblboaaGreatDoorNmb
import Derived.OneCell
namespace Go.Proofs.YtelichlplblboaaGreatDoor
open Go.RowKit
/-- w' is w but for the blocks that K names, and new ones. -/
structure Only (K : Nat → Prop) (w w' : World) : Prop where
  os : w'.os = w.os
  tape : w'.tape = w.tape
  output : w'.output = w.output
  size : w.heap.size ≤ w'.heap.size
  block : ∀ k, k < w.heap.size → ¬ K k → w'.heap[k]? = w.heap[k]?
theorem Only.refl (K : Nat → Prop) (w : World) : Only K w w := ⟨rfl, rfl, rfl, Nat.le_refl _, fun _ _ _ => rfl⟩
theorem Only.trans {K : Nat → Prop} {a b c : World} (h : Only K a b) (k : Only K b c) : Only K a c :=
  ⟨k.os.trans h.os, k.tape.trans h.tape, k.output.trans h.output, Nat.le_trans h.size k.size, fun i hi hk => (k.block i (Nat.lt_of_lt_of_le hi h.size) hk).trans (h.block i hi hk)⟩
theorem Only.wide {K K' : Nat → Prop} {a b : World} (h : Only K a b) (hk : ∀ i, K i → K' i) : Only K' a b :=
  ⟨h.os, h.tape, h.output, h.size, fun i hi hn => h.block i hi (fun hc => hn (hk i hc))⟩
theorem Only.of_below {K : Nat → Prop} {a b : World} (h : Below a.heap.size a b) : Only K a b := ⟨h.os, h.tape, h.output, h.size, fun i hi _ => h.block i hi⟩
theorem Only.of_grown {a b : World} {r : Nat} (h : a.grownBy b (some r)) : Only (· = r) a b :=
  ⟨h.os, h.tape, h.output, h.size, fun i hi hn => h.block i hi (fun e => hn (by cases e; rfl))⟩
theorem Only.below {K : Nat → Prop} {a b : World} {B : Nat} (h : Only K a b) (hB : B ≤ a.heap.size) (hk : ∀ i, K i → B ≤ i) : Below B a b :=
  ⟨h.os, h.tape, h.output, h.size, fun i hi => h.block i (by omega) (fun hc => by have := hk i hc; omega)⟩
theorem var_same {w w' : World} {n : String} {g : Nat} {cs : Array Value} (hg : Tryz.prog.globalNamed n = some g) (hb : w'.heap[g]? = w.heap[g]?) (h : w.var? Tryz.prog n = some cs) : w'.var? Tryz.prog n = some cs := by
  unfold World.var? at h ⊢
  rw [hg] at h ⊢
  simp only [Option.bind_some] at h ⊢
  rw [hb]; exact h
theorem Q.only {W w w' : World} {K : Nat → Prop} (h : Q W w) (ho : Only K w w') (hk : ∀ i, K i → W.heap.size ≤ i) : Q W w' := by
  have hl := h.lo
  have hz := h.bel.size
  have hs : ∀ i, i < W.heap.size → w'.heap[i]? = w.heap[i]? := fun i hi => ho.block i (by omega) (fun hc => by have := hk i hc; omega)
  refine ⟨h.bel.trans (ho.below hz hk), hl, ?_, var_same gPow (hs _ hl.2.1) h.tab, ?_, ?_⟩
  · obtain ⟨m, hm⟩ := h.m
    exact ⟨m, (World.cell?_of_block (w := w) (hs _ hl.1)).trans hm⟩
  · obtain ⟨tp, p, hv⟩ := h.es
    exact ⟨tp, p, var_same gSyn (hs _ hl.2.2.1) hv⟩
  · obtain ⟨tp, p, hv⟩ := h.er
    exact ⟨tp, p, var_same gRan (hs _ hl.2.2.2) hv⟩
end Go.Proofs.YtelichlplblboaaGreatDoor
