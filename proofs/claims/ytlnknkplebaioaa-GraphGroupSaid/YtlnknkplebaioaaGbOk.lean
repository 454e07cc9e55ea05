/-
  FROM WHAT A ROW HAS OF A SLICE OF KEYS TO WHAT THE WALKS READ.
-/
import Derived.Test.YtlnknkplebaioaaGbOp
import Derived.Test.YtlnknkplebaioaaGbGa
namespace Go.Proofs.Ytlnknkplebaioaa
open Go.ChangeShapes Go.WideShapes Go.ChangeAt Go.RowKit Go.Deep
set_option maxRecDepth 100000
theorem cellsKy : Try.prog.cellsOf 38 = 2 := by kernel_rfl
theorem bytesKy : Try.prog.bytesOf 38 = 16 := by kernel_rfl
/-- What a key in memory is bounded by. -/
def KyB (a : Ky) : Prop := -9223372036854775808 ≤ a.1 ∧ a.1 ≤ 9223372036854775807 ∧ -9223372036854775808 ≤ a.2 ∧ a.2 ≤ 9223372036854775807
theorem ky_of {H : Type} {enc : TypeId × Value → H} {W : World} {fuel : Nat} {cs : List Value} {x : DataW H × List MemPlace}
    (h : DataW.trod enc Try.prog W 0 (fun _ => true) true fuel 38 cs = some x) : ∃ a : Ky, cs = kyCells a ∧ KyB a := by
  obtain ⟨xs, n, _, rfl, hl, hlen, hf⟩ := DataW.trod_struct Try.underlying38 h
  rw [cellsKy] at hl
  match xs, hlen with
  | [y0, y1], _ =>
    have f0 := hf 0 _ rfl
    have f1 := hf 1 _ rfl
    match cs, hl with
    | [u0, u1], _ =>
      simp [cellsInt] at f0 f1
      obtain ⟨i0, e0, -, g0⟩ := DataW.trod_int Try.underlying3 f0
      obtain ⟨i1, e1, -, g1⟩ := DataW.trod_int Try.underlying3 f1
      simp only [List.cons.injEq, and_true] at e0 e1
      exact ⟨(i0, i1), by rw [e0, e1]; rfl, (bounds_i64 g0).1, (bounds_i64 g0).2, (bounds_i64 g1).1, (bounds_i64 g1).2⟩
theorem keys_of {H : Type} {enc : TypeId × Value → H} {W : World} {a : Option Addr} {n c : Nat} {d : DataW H} {p : List MemPlace}
    (h : DataW.Trod enc Try.prog W 0 (fun _ => true) true 36 (.slice a n c) d p) : ∃ l, Kys W a n l ∧ n ≤ maxLen ∧ ∀ x ∈ l, KyB x := by
  obtain ⟨fuel, hf⟩ := h
  rcases Go.Deep.open_slice Try.underlying36 hf with ⟨hcs, -⟩ | ⟨b, len, cap, m, f, D, P, hcs, -, hl, hcm, hm, -, hx⟩
  · simp [Value.cells] at hcs
    obtain ⟨rfl, rfl, rfl⟩ := hcs
    exact ⟨[], ⟨rfl, fun k hk => absurd hk (by simp)⟩, Nat.zero_le _, fun t ht => absurd ht List.not_mem_nil⟩
  · simp [Value.cells] at hcs
    obtain ⟨rfl, rfl, rfl⟩ := hcs
    simp only [if_true] at hm
    obtain ⟨b, off, spot⟩ := b
    have hsp : 0 < n → spot = none := by
      intro h0
      obtain ⟨cs, h1, h2⟩ := hx 0 (by omega)
      obtain ⟨-, -, hcc⟩ := World.cells?_some h1
      rw [cellsKy] at hcc
      obtain ⟨t, rfl, -⟩ := ky_of h2
      have g0 := hcc 0 (by omega)
      simpa [Addr.add] using World.cell?_spot g0
    have each : ∀ i, i < n → ∃ t : Ky, spot = none ∧ KC W b (off + i * 2) t ∧ KyB t := by
      intro i hi
      obtain ⟨cs, h1, h2⟩ := hx i (by omega)
      obtain ⟨t, rfl, htb⟩ := ky_of h2
      obtain ⟨-, -, hcc⟩ := World.cells?_some h1
      rw [cellsKy] at hcc
      have g0 := hcc 0 (by omega)
      have g1 := hcc 1 (by omega)
      rw [Addr.add_add] at g0 g1
      have hspot := hsp (by omega)
      subst hspot
      rw [add_plain] at g0 g1
      exact ⟨t, rfl, ⟨g0, g1⟩, htb⟩
    obtain ⟨f, hf⟩ := Go.Deep.choose_lt each
    refine ⟨(List.range n).map f, ⟨by simp, fun k hk => ?_⟩, by omega, fun t ht => ?_⟩
    · simp only [List.length_map, List.length_range] at hk
      obtain ⟨rfl, g, -⟩ := hf k hk
      refine ⟨b, off, rfl, ?_⟩
      simpa using g
    · obtain ⟨k, hk, rfl⟩ := List.mem_map.1 ht
      exact (hf k (List.mem_range.1 hk)).2.2
end Go.Proofs.Ytlnknkplebaioaa
