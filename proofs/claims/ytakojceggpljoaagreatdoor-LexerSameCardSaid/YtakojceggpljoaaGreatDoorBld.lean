/-
  WALKS. strings.Builder at the head of a block of the call's own: a variable by itself, or a struct's first field.
-/
import Derived.Test.YtakojceggpljoaaGreatDoorLText
import Derived.Lib.Builder
import Derived.Lib.AppendStr
import Derived.Lib.UnsafeStr
import Derived.Laws.Externs
import Derived.RegionTactic
import Derived.Deep.AppendLies
namespace Go.Proofs.YtakojceggpljoaaGreatDoor
open Go.RowKit Go.Maps
/-- A builder at the head of block b, of type T: what 'addr' holds; what stands behind it; what it has been given; B: where its buffers begin. -/
def BA (w : World) (b : Nat) (T : TypeId) (rest : List Value) (B : Nat) (p : Value) (l : List UInt8) : Prop :=
  b < B ∧ ∃ v, w.heap[b]? = some (.cells (p :: v :: rest).toArray T (0, 0)) ∧ BR w B v l
def BB (w : World) (b : Nat) (T : TypeId) (rest : List Value) (B : Nat) (l : List UInt8) : Prop :=
  BA w b T rest B (.pointer none) l ∨ BA w b T rest B (.pointer (some ⟨b, 0, none⟩)) l
/-- A builder lies at the head of a T with so many cells behind it. -/
def Lies (T : TypeId) (n : Nat) : Prop := liesAt Tryz.prog Tryz.prog.depth T ((n + 2) / Tryz.prog.cellsOf T) 0 57 1 = true
theorem sizeBld : ∃ j, Tryz.prog.info? 57 = some j ∧ j.size = 2 := by
  have h : (Tryz.prog.info? 57).map (·.size) = some 2 := by kernel_rfl
  obtain ⟨j, hj, hs⟩ := Option.map_eq_some_iff.1 h
  exact ⟨j, hj, hs⟩
section
variable {w : World} {b B : Nat} {T : TypeId} {rest : List Value} {p : Value} {l : List UInt8}
theorem BA.c0 (h : BA w b T rest B p l) : w.cell? ⟨b, 0, none⟩ = some p := by obtain ⟨_, v, hb, _⟩ := h; simp [World.cell?, hb]
theorem BA.fz (h : BA w b T rest B p l) (k : Nat) : w.frozen? ⟨b, k, none⟩ = false := by obtain ⟨_, v, hb, _⟩ := h; simp [World.frozen?, hb]
theorem BA.sh (h : BA w b T rest B p l) : w.shape? b = some (T, rest.length + 2) := by obtain ⟨_, v, hb, _⟩ := h; simp [World.shape?, hb]
theorem BA.lt (h : BA w b T rest B p l) : b < w.heap.size := by obtain ⟨_, v, hb, _⟩ := h; exact lt_of_block hb
theorem BA.only {w' : World} {K : Nat → Prop} (h : BA w b T rest B p l) (ho : Only K w w') (hb : ¬ K b) (hk : ∀ i, K i → i < B) : BA w' b T rest B p l := by
  obtain ⟨h1, v, h2, h3⟩ := h
  exact ⟨h1, v, (ho.block b (lt_of_block h2) hb).trans h2, h3.only ho hk⟩
theorem BA.setP (h : BA w b T rest B p l) (q : Value) : BA (w.setCell ⟨b, 0, none⟩ q) b T rest B q l := by
  obtain ⟨h1, v, h2, h3⟩ := h
  refine ⟨h1, v, ?_, h3.only (Only.setCell (k := 0) (Only.refl (· = b) w) rfl q) (fun i hi => by rw [hi]; exact h1)⟩
  simp [World.setCell, Array.getElem?_modify, h2]
end
set_option maxHeartbeats 1000000 in
set_option maxRecDepth 100000 in
theorem copyCheck_used (b : Nat) (w : World) (h0 : w.cell? ⟨b, 0, none⟩ = some (.pointer (some ⟨b, 0, none⟩))) :
    Calls Tryz.prog 102 #[.pointer (some ⟨b, 0, none⟩)] w fun e w' => e = .returned (.tuple #[]) ∧ w = w' := by
  obtain ⟨j, hj, _⟩ := sizeBld
  go_enter Tryz.func102, Tryz.ntmps102
  go_wp2
  rw [Lib.run_neq_ptr_same w _ Tryz.underlying55 hj]
  go_wp2
  go_end0
  exact ⟨rfl, rfl⟩
set_option maxHeartbeats 1000000 in
set_option maxRecDepth 100000 in
theorem copyCheck_fresh (b : Nat) (T : TypeId) (n : Nat) (w : World) (h0 : w.cell? ⟨b, 0, none⟩ = some (.pointer none)) (hsh : w.shape? b = some (T, n + 2)) (hl : Lies T n) (hfz : w.frozen? ⟨b, 0, none⟩ = false) :
    Calls Tryz.prog 102 #[.pointer (some ⟨b, 0, none⟩)] w fun e w' => e = .returned (.tuple #[]) ∧ w.setCell ⟨b, 0, none⟩ (.pointer (some ⟨b, 0, none⟩)) = w' := by
  obtain ⟨j, hj, hjs⟩ := sizeBld
  go_enter Tryz.func102, Tryz.ntmps102
  go_wp2
  rw [Lib.run_to_unsafe w ⟨b, 0, none⟩ Tryz.underlying55 Tryz.underlying115 hj (by rw [hjs]; decide) hsh (Nat.zero_lt_succ _)]
  simp only [Result.andThen]
  rw [Oper.upon_value]
  go_wp2
  rw [run_callFunc_extern Tryz.func125 (by kernel_rfl) (by kernel_rfl) (by kernel_rfl) (e := Extern.AbiNoEscape.same) (by kernel_rfl)]
  rw [Lib.run_noEscape]
  simp only [Result.andThen]
  rw [Oper.upon_value]
  go_wp2
  rw [Lib.run_from_unsafe w ⟨b, 0, none⟩ Tryz.underlying115 Tryz.underlying55 hj hsh hl]
  simp only [Result.andThen]
  rw [Oper.upon_value]
  go_wp2
  go_end0
  exact ⟨rfl, rfl⟩
section
variable {w : World} {b B : Nat} {T : TypeId} {rest : List Value} {l : List UInt8}
theorem copyCheck_p (h : BB w b T rest B l) (hl : Lies T rest.length) :
    Calls Tryz.prog 102 #[.pointer (some ⟨b, 0, none⟩)] w fun e w' => e = .returned (.tuple #[]) ∧ BA w' b T rest B (.pointer (some ⟨b, 0, none⟩)) l ∧ Only (· = b) w w' := by
  rcases h with h | h
  · refine (copyCheck_fresh b T rest.length w h.c0 h.sh hl (h.fz 0)).mono ?_
    rintro e w' ⟨rfl, rfl⟩
    exact ⟨rfl, h.setP _, Only.setCell (k := 0) (Only.refl (· = b) w) rfl _⟩
  · refine (copyCheck_used b w h.c0).mono ?_
    rintro e w' ⟨rfl, rfl⟩
    exact ⟨rfl, h, Only.refl _ _⟩
/-- Behind an append to the buffer, and its store. -/
theorem BA.stored {w1 w2 : World} {v v' : Value} {l' : List UInt8} (hb : b < B) (h : w1.heap[b]? = some (.cells (.pointer (some ⟨b, 0, none⟩) :: v :: rest).toArray T (0, 0))) (hR : BR w1 B v l) (hg : w1.grownBy w2 v.ownBlock) (h' : BR w2 B v' l') :
    BA (w2.setCell ⟨b, 1, none⟩ v') b T rest B (.pointer (some ⟨b, 0, none⟩)) l' ∧ Only (fun k => k = b ∨ B ≤ k) w1 (w2.setCell ⟨b, 1, none⟩ v') ∧ w2.cell? ⟨b, 0, none⟩ = some (.pointer (some ⟨b, 0, none⟩)) ∧ w2.cell? ⟨b, 1, none⟩ = some v ∧ w2.frozen? ⟨b, 1, none⟩ = false := by
  have hne : v.ownBlock ≠ some b := fun e => by have := (World.ownsRow.lt hR b e).1; omega
  have hb2 : w2.heap[b]? = some (.cells (.pointer (some ⟨b, 0, none⟩) :: v :: rest).toArray T (0, 0)) := (hg.block b (lt_of_block h) (fun e => hne e.symm)).trans h
  refine ⟨⟨hb, v', ?_, h'.only (Only.setCell (k := 1) (Only.refl (· = b) w2) rfl v') (fun i hi => by rw [hi]; exact hb)⟩, Only.setCell (k := 1) (Only.grown hg (fun k hk => .inr (World.ownsRow.lt hR k hk).1)) (.inl rfl) _, ?_, ?_, ?_⟩
  · simp [World.setCell, Array.getElem?_modify, hb2]
  · simp [World.cell?, hb2]
  · simp [World.cell?, hb2]
  · simp [World.frozen?, hb2]
end
end Go.Proofs.YtakojceggpljoaaGreatDoor
