/-
  WALKS. NewSupply.
-/
import Derived.Test.YtniejaachfhkdaaGreatDoorFresh
namespace Go.Proofs.YtniejaachfhkdaaGreatDoor
open Go.RowKit Go.Maps
theorem run_makeMap_hint (n : Int) (w : World) : (Instr.makeMap 64 (some (.int .i64 n))).run Tryz.prog w = .ok (.map (some w.heap.size)) (w.alloc (.map #[] 0)) := by
  simp [Instr.makeMap, run_underlying Tryz.underlying64, asInt, Result.andThen, go_sem]
/-- The slice value v reads as the strings ss. -/
structure Reads (w : World) (ob : Option Addr) (n : Nat) (ss : List ByteArray) : Prop where
  len : ss.length = n
  cell : ∀ k (h : k < ss.length), ∃ b o, ob = some ⟨b, o, none⟩ ∧ w.cell? ⟨b, o + k, none⟩ = some (.string ss[k]) ∧ b < w.heap.size
  size : ∀ s ∈ ss, s.size ≤ 1000000
theorem Reads.only {w w' : World} {ob n ss} (h : Reads w ob n ss) (K : Nat → Prop) (ho : Only K w w') (hk : ∀ i, K i → w.heap.size ≤ i) : Reads w' ob n ss := by
  refine ⟨h.len, fun k hk' => ?_, h.size⟩
  obtain ⟨b, o, e, hc, hl⟩ := h.cell k hk'
  exact ⟨b, o, e, (World.cell?_of_block (w := w) (ho.block b hl (fun hc => by have := hk b hc; omega))).trans hc, Nat.lt_of_lt_of_le hl ho.size⟩
def usedOf (ss : List ByteArray) : List (List UInt8) := (ss.map (fun s => s.data.toList)).reverse
theorem usedOf_snoc (ss : List ByteArray) (k : Nat) (h : k < ss.length) : usedOf (ss.take (k + 1)) = ss[k].data.toList :: usedOf (ss.take k) := by
  rw [usedOf, List.take_succ_eq_append_getElem h, List.map_append, List.reverse_append]; rfl
theorem heap_new (w : World) (o : Obj) : (w.alloc o).heap[w.heap.size]? = some o := (MapKept.heap_alloc w o).1
def startPl (w : World) : Pl := ⟨w.heap.size + 1 + 1, w.heap.size, w.heap.size + 1⟩
def startW (w : World) : World := ((w.alloc (.map #[] 0)).alloc (.map #[] 0)).alloc (.cells #[.pointer (some ⟨w.heap.size + 1 + 1, 0, none⟩), .map (some w.heap.size), .map (some (w.heap.size + 1))] 67)
theorem start_below (w : World) : Below w.heap.size w (startW w) :=
  (((Below.refl _ w).alloc (Nat.le_refl _) _).alloc (by simp) _).alloc (by simp; omega) _
theorem Sup.start {W w : World} (hq : Q W w) : Sup W (startPl w) [] (fun _ => 0) 0 (startW w) := by
  have hz := hq.bel.size
  refine { q := hq.below (start_below w), la := by simp [startPl]; omega, lu := by simp [startPl]; omega, lt := by simp [startPl]; omega,
           au := by simp [startPl]; omega, at' := by simp [startPl], ut := by simp [startPl], blk := ?_, nN := by omega, tN := fun _ => Nat.le_refl _, ou := ⟨.map [], ?_, fun s => ?_⟩, ot := ⟨.map [], ?_, fun s => ?_⟩ }
  · have := heap_new ((w.alloc (.map #[] 0)).alloc (.map #[] 0)) (.cells #[.pointer (some ⟨w.heap.size + 1 + 1, 0, none⟩), .map (some w.heap.size), .map (some (w.heap.size + 1))] 67)
    simpa [startPl, startW] using this
  · exact ((World.ownsMap_made w _ _ _).alloc _).alloc _
  · rfl
  · have := (World.ownsMap_made (H := Unit) (w.alloc (.map #[] 0)) Tryz.prog 9 (plainElem Tryz.prog 3)).alloc (.cells #[.pointer (some ⟨w.heap.size + 1 + 1, 0, none⟩), .map (some w.heap.size), .map (some (w.heap.size + 1))] 67)
    simpa [startPl, startW] using this
  · rfl
set_option maxRecDepth 100000 in
set_option maxHeartbeats 1000000 in
theorem NewSupply_q (W w : World) (n : Nat) (ob : Option Addr) (c : Nat) (ss : List ByteArray) (hq : Q W w) (hn : n ≤ 1000000) (hr : Reads w ob n ss) :
    Calls Tryz.prog 19 #[.slice ob n c] w fun e w' => ∃ p : Pl, e = .returned (.pointer (some ⟨p.a, 0, none⟩)) ∧ Sup W p (usedOf ss) (fun _ => 0) n w' ∧ Below w.heap.size w w' ∧ w.heap.size ≤ p.a ∧ w.heap.size ≤ p.u ∧ w.heap.size ≤ p.t := by
  have hmm := @run_makeMap Tryz.prog
  have hmh := run_makeMap_hint
  have HS0 := Sup.start hq
  have HB0 := start_below w
  have hlen := hr.len
  have HLEN := Lib.hid hlen
  clear hlen
  go_enter Tryz.func19, Tryz.ntmps19
  go_wp2
  go_loopw [5, 18] (fun v i wr => ∃ k : Nat, k ≤ n ∧ i = .int .i64 k ∧ Sup W (startPl w) (usedOf (ss.take k)) (fun _ => 0) k wr ∧ Below w.heap.size w wr) (fun _ i _ => n - (intOf i).toNat)
  case atStart => exact ⟨0, Nat.zero_le _, rfl, HS0, HB0⟩
  case round =>
    obtain ⟨k, hk, rfl, hS, hB⟩ := hrel
    by_cases hlt : k < n
    · have hkl : k < ss.length := by rw [HLEN.out]; exact hlt
      obtain ⟨b, o, rfl, hc, hbl⟩ := hr.cell k hkl
      obtain ⟨s, hs⟩ : ∃ s, s = ss[k] := ⟨_, rfl⟩
      have hsz : s.size ≤ 1000000 := by rw [hs]; exact hr.size _ (List.getElem_mem _)
      have hcw : wr.cell? ⟨b, o + k, none⟩ = some (.string s) := by rw [hs]; exact (hB.cell hbl).trans hc
      have HS := Lib.hid hs
      clear hs hc
      have c1 := hS.cell1
      have d1 : wr.cell? ⟨w.heap.size + 1 + 1, 1, none⟩ = some (.map (some w.heap.size)) := c1
      obtain ⟨wb, hup, hS2, hO⟩ := hS.mark (s := s) (by omega) (by omega)
      have hup' : (Instr.mapUpdate 64 (.map (some w.heap.size)) (.string s) (.bool true)).run Tryz.prog wr = .ok () wb := hup
      clear hup
      go_wp2
      go_roundw
      case rel => exact ⟨k + 1, by omega, by go_num, by rw [usedOf_snoc ss k hkl, ← HS.out]; exact hS2, hB.trans (hO.below hB.size (fun i hi => by subst hi; exact Nat.le_refl _))⟩
      case measure => simp [intOf]; omega
    · go_wp2
      go_ret
      refine ⟨startPl w, rfl, ?_, hB, ?_, ?_, ?_⟩
      · have e : k = n := by omega
        subst e
        rw [List.take_of_length_le (by rw [HLEN.out]; exact Nat.le_refl _)] at hS
        exact hS
      · simp [startPl]; omega
      · simp [startPl]
      · simp [startPl]
end Go.Proofs.YtniejaachfhkdaaGreatDoor
