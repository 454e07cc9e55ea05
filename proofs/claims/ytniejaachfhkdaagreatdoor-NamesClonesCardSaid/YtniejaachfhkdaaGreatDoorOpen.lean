/-
  FROM WHAT A ROW HAS OF A SLICE OF STRINGS, A SLICE OF CALLS, TO WHAT THE WALKS READ.
-/
import Derived.Test.YtniejaachfhkdaaGreatDoorLift
import Derived.Test.YtniejaachfhkdaaGreatDoorHas
import Derived.SliceStrings
import Derived.Deep.Slices
import Derived.ChangeSame
import Derived.Carry
namespace Go.Proofs.YtniejaachfhkdaaGreatDoor
open Go.ChangeShapes Go.WideShapes Go.ChangeAt Go.RowKit
set_option maxRecDepth 100000
theorem laidOutOk : laidOutB Tryz.prog = true := by kernel_rfl
/-- A slice of strings, opened. -/
theorem strs_of {H : Type} {enc : TypeId × Value → H} {W : World} {a : Option Addr} {n c : Nat} {d : DataW H} {p : List MemPlace}
    (h : DataW.Trod enc Tryz.prog W 0 (fun _ => true) true 30 (.slice a n c) d p) : ∃ ss, Strs W a n ss := by
  obtain ⟨fuel, hf⟩ := h
  rcases open_strings Tryz.underlying30 Tryz.underlying9 (by kernel_rfl) hf with ⟨hcs, -⟩ | ⟨b, len, cap, ss, hcs, -, hl, -, hz, -, hcell, -⟩
  · simp [Value.cells] at hcs
    obtain ⟨rfl, rfl, rfl⟩ := hcs
    exact ⟨[], rfl, fun k hk => absurd hk (by simp)⟩
  · simp [Value.cells] at hcs
    obtain ⟨rfl, rfl, rfl⟩ := hcs
    simp only [if_true] at hz
    refine ⟨ss.take n, by simp; omega, fun k hk => ?_⟩
    simp only [List.length_take] at hk
    obtain ⟨b, off, spot⟩ := b
    have hspot : spot = none := by simpa [Addr.add] using World.cell?_spot (hcell 0 (by omega))
    subst hspot
    have hc := hcell k (by omega)
    rw [add_plain] at hc
    refine ⟨b, off, rfl, ?_, cell_lt hc⟩
    rw [hc]
    simp [List.getD_eq_getElem?_getD, List.getElem?_eq_getElem (show k < ss.length by omega)]
/-- A call, opened. -/
theorem op_of {H : Type} {enc : TypeId × Value → H} {W : World} {fuel : Nat} {cs : List Value} {x : DataW H × List MemPlace}
    (h : DataW.trod enc Tryz.prog W 0 (fun _ => true) true fuel 38 cs = some x) : ∃ i s, cs = [.int .i64 i, .string s] := by
  obtain ⟨y0, y1, n, -, hl, h0, h1⟩ := trod_struct2 Tryz.underlying38 h
  have hc : Tryz.prog.cellsOf 38 = 2 := by kernel_rfl
  have hi : Tryz.prog.cellsOf 3 = 1 := by kernel_rfl
  have hs : Tryz.prog.cellsOf 9 = 1 := by kernel_rfl
  rw [hc] at hl
  match cs, hl with
  | [u, v], _ =>
    simp only [hi, hs, List.drop_zero, List.drop_succ_cons, List.take_succ_cons, List.take_zero] at h0 h1
    obtain ⟨i, e0, -, -⟩ := DataW.trod_int Tryz.underlying3 h0
    obtain ⟨s, e1, -, -⟩ := DataW.trod_string Tryz.underlying9 h1
    simp only [List.cons.injEq, and_true] at e0 e1
    exact ⟨i, s, by rw [e0, e1]⟩
/-- A slice of calls, opened. -/
theorem ops_of {H : Type} {enc : TypeId × Value → H} {W : World} {a : Option Addr} {n c : Nat} {d : DataW H} {p : List MemPlace}
    (h : DataW.Trod enc Tryz.prog W 0 (fun _ => true) true 31 (.slice a n c) d p) : ∃ ops, OpsR W a n ops := by
  obtain ⟨fuel, hf⟩ := h
  have hc2 : Tryz.prog.cellsOf 38 = 2 := by kernel_rfl
  rcases Go.Deep.open_slice Tryz.underlying31 hf with ⟨hcs, -⟩ | ⟨b, len, cap, m, f, D, P, hcs, -, hl, -, hm, -, hx⟩
  · simp [Value.cells] at hcs
    obtain ⟨rfl, rfl, rfl⟩ := hcs
    exact ⟨[], rfl, fun k hk => absurd hk (by simp)⟩
  · simp [Value.cells] at hcs
    obtain ⟨rfl, rfl, rfl⟩ := hcs
    simp only [if_true] at hm
    obtain ⟨b, off, spot⟩ := b
    have hsp : 0 < n → spot = none := by
      intro h0
      obtain ⟨cs, h1, h2⟩ := hx 0 (by omega)
      obtain ⟨-, -, hcc⟩ := World.cells?_some h1
      rw [hc2] at hcc
      obtain ⟨u, s, rfl⟩ := op_of h2
      have g0 := hcc 0 (by omega)
      simpa [Addr.add] using World.cell?_spot g0
    have each : ∀ i, i < n → ∃ y : Int × ByteArray, spot = none ∧ W.cell? ⟨b, off + i * 2, none⟩ = some (.int .i64 y.1) ∧ W.cell? ⟨b, off + i * 2 + 1, none⟩ = some (.string y.2) := by
      intro i hi
      obtain ⟨cs, h1, h2⟩ := hx i (by omega)
      obtain ⟨u, s, rfl⟩ := op_of h2
      obtain ⟨-, -, hcc⟩ := World.cells?_some h1
      rw [hc2] at hcc
      have g0 := hcc 0 (by omega)
      have g1 := hcc 1 (by omega)
      rw [Addr.add_add] at g0 g1
      have hspot := hsp (by omega)
      subst hspot
      rw [add_plain] at g0 g1
      exact ⟨(u, s), rfl, g0, g1⟩
    obtain ⟨f, hf⟩ := Go.Deep.choose_lt each
    refine ⟨(List.range n).map f, by simp, fun k hk => ?_⟩
    simp only [List.length_map, List.length_range] at hk
    obtain ⟨rfl, g0, g1⟩ := hf k hk
    refine ⟨b, off, rfl, ?_, ?_, cell_lt g0⟩
    · rw [g0]; simp
    · rw [g1]; simp
end Go.Proofs.YtniejaachfhkdaaGreatDoor
