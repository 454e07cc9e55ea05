/-
  FROM WHAT A ROW HAS OF A SLICE OF TOKENS TO WHAT THE WALKS READ; the wrap of a law over one slice of tokens.
-/
import Derived.Test.YthblchafjmgmbaaLyA
import Derived.Test.YthblchafjmgmbaaRows
import Derived.ProofKit
import Derived.OpenShut
import Derived.SliceStrings
import Derived.Deep.Slices
import Derived.ChangeSame
import Derived.Carry
import Derived.JoinedCond
import Derived.Deep.CondSized
namespace Go.Proofs.Ythblchafjmgmbaa
open Go.ChangeShapes Go.WideShapes Go.ChangeAt Go.RowKit
set_option maxRecDepth 100000
theorem own : ownKnob Try.prog.godebug = none := by kernel_rfl
theorem laidOutOk : laidOutB Try.prog = true := by kernel_rfl
instance : Inhabited Tok := ⟨⟨0, ⟨#[]⟩, ⟨#[]⟩, 0, false, 0, 0⟩⟩
/-- A token, opened. -/
theorem tok_of {H : Type} {enc : TypeId × Value → H} {W : World} {fuel : Nat} {cs : List Value} {x : DataW H × List MemPlace}
    (h : DataW.trod enc Try.prog W 0 (fun _ => true) true fuel 33 cs = some x) : ∃ t : Tok, cs = tokCells t := by
  obtain ⟨xs, n, _, rfl, hl, hlen, hf⟩ := DataW.trod_struct Try.underlying33 h
  have hc : Try.prog.cellsOf 33 = 7 := by kernel_rfl
  have h1 : Try.prog.cellsOf 31 = 1 := by kernel_rfl
  have hi : Try.prog.cellsOf 3 = 1 := by kernel_rfl
  have hs : Try.prog.cellsOf 9 = 1 := by kernel_rfl
  have hb : Try.prog.cellsOf 4 = 1 := by kernel_rfl
  rw [hc] at hl
  match xs, hlen with
  | [y0, y1, y2, y3, y4, y5, y6], _ =>
    have f0 := hf 0 _ rfl
    have f1 := hf 1 _ rfl
    have f2 := hf 2 _ rfl
    have f3 := hf 3 _ rfl
    have f4 := hf 4 _ rfl
    have f5 := hf 5 _ rfl
    have f6 := hf 6 _ rfl
    match cs, hl with
    | [u0, u1, u2, u3, u4, u5, u6], _ =>
      simp [h1, hi, hs, hb] at f0 f1 f2 f3 f4 f5 f6
      obtain ⟨i0, e0, -, -⟩ := DataW.trod_int Try.underlying31 f0
      obtain ⟨s1, e1, -, -⟩ := DataW.trod_string Try.underlying9 f1
      obtain ⟨s2, e2, -, -⟩ := DataW.trod_string Try.underlying9 f2
      obtain ⟨i3, e3, -, -⟩ := DataW.trod_int Try.underlying3 f3
      obtain ⟨b4, e4, -, -⟩ := DataW.trod_bool Try.underlying4 f4
      obtain ⟨i5, e5, -, -⟩ := DataW.trod_int Try.underlying3 f5
      obtain ⟨i6, e6, -, -⟩ := DataW.trod_int Try.underlying3 f6
      simp only [List.cons.injEq, and_true] at e0 e1 e2 e3 e4 e5 e6
      exact ⟨⟨i0, s1, s2, i3, b4, i5, i6⟩, by rw [e0, e1, e2, e3, e4, e5, e6]; rfl⟩
theorem toks_of' {H : Type} {enc : TypeId × Value → H} {W : World} {a : Option Addr} {n c : Nat} {d : DataW H} {p : List MemPlace}
    (h : DataW.Trod enc Try.prog W 0 (fun _ => true) true 22 (.slice a n c) d p) : ∃ ts, Tks W a n ts ∧ (a = none → n = 0 ∧ c = 0) := by
  obtain ⟨fuel, hf⟩ := h
  have hc7 : Try.prog.cellsOf 33 = 7 := by kernel_rfl
  rcases Go.Deep.open_slice Try.underlying22 hf with ⟨hcs, -⟩ | ⟨b, len, cap, m, f, D, P, hcs, -, hl, hcm, hm, -, hx⟩
  · simp [Value.cells] at hcs
    obtain ⟨rfl, rfl, rfl⟩ := hcs
    exact ⟨[], ⟨rfl, fun k hk => absurd hk (by simp)⟩, fun _ => ⟨rfl, rfl⟩⟩
  · simp [Value.cells] at hcs
    obtain ⟨rfl, rfl, rfl⟩ := hcs
    simp only [if_true] at hm
    obtain ⟨b, off, spot⟩ := b
    have hsp : 0 < n → spot = none := by
      intro h0
      obtain ⟨cs, h1, h2⟩ := hx 0 (by omega)
      obtain ⟨-, -, hcc⟩ := World.cells?_some h1
      rw [hc7] at hcc
      obtain ⟨t, rfl⟩ := tok_of h2
      have g0 := hcc 0 (by omega)
      simpa [Addr.add] using World.cell?_spot g0
    have each : ∀ i, i < n → ∃ t : Tok, spot = none ∧ TC W b (off + i * 7) t := by
      intro i hi
      obtain ⟨cs, h1, h2⟩ := hx i (by omega)
      obtain ⟨t, rfl⟩ := tok_of h2
      obtain ⟨-, -, hcc⟩ := World.cells?_some h1
      rw [hc7] at hcc
      have g0 := hcc 0 (by omega)
      have g1 := hcc 1 (by omega)
      have g2 := hcc 2 (by omega)
      have g3 := hcc 3 (by omega)
      have g4 := hcc 4 (by omega)
      have g5 := hcc 5 (by omega)
      have g6 := hcc 6 (by omega)
      rw [Addr.add_add] at g0 g1 g2 g3 g4 g5 g6
      have hspot := hsp (by omega)
      subst hspot
      rw [add_plain] at g0 g1 g2 g3 g4 g5 g6
      exact ⟨t, rfl, ⟨g0, g1, g2, g3, g4, g5, g6⟩⟩
    obtain ⟨f, hf⟩ := Go.Deep.choose_lt each
    refine ⟨(List.range n).map f, ⟨by simp, fun k hk => ?_⟩, fun he => by cases he⟩
    · simp only [List.length_map, List.length_range] at hk
      obtain ⟨rfl, g⟩ := hf k hk
      refine ⟨b, off, rfl, ?_⟩
      simpa using g
end Go.Proofs.Ythblchafjmgmbaa
