/-
  FROM WHAT A ROW HAS OF A SLICE OF MODULES TO WHAT THE WALKS READ.
-/
import Derived.Test.YtigmdiagdlbdpaaGreatMgl
import Derived.Test.YtigmdiagdlbdpaaGreatGbOp
namespace Go.Proofs.YtigmdiagdlbdpaaGreat
open Go.ChangeShapes Go.WideShapes Go.ChangeAt Go.RowKit Go.Deep
set_option maxRecDepth 100000
theorem cellsIm : Tryz.prog.cellsOf 69 = 6 := by kernel_rfl
theorem cellsMd : Tryz.prog.cellsOf 42 = 5 := by kernel_rfl
theorem cellsStr : Tryz.prog.cellsOf 9 = 1 := by kernel_rfl
theorem cellsBool : Tryz.prog.cellsOf 4 = 1 := by kernel_rfl
theorem cellsExs : Tryz.prog.cellsOf 38 = 1 := by kernel_rfl
theorem cellsIms : Tryz.prog.cellsOf 39 = 1 := by kernel_rfl
theorem cellsDes : Tryz.prog.cellsOf 40 = 1 := by kernel_rfl
theorem slice_form {H : Type} {enc : TypeId × Value → H} {W : World} {fuel : Nat} {t e : TypeId} {cs : List Value} {x : DataW H × List MemPlace} (ht : Tryz.prog.underlying t = some (.slice e))
    (h : DataW.trod enc Tryz.prog W 0 (fun _ => true) true fuel t cs = some x) : ∃ oa n c, cs = [.slice oa n c] := by
  rcases Go.Deep.open_slice ht h with ⟨hcs, -⟩ | ⟨b, len, cap, m, f, D, P, hcs, -⟩
  · exact ⟨none, 0, 0, hcs⟩
  · exact ⟨some b, len, cap, hcs⟩
theorem str_form (s : ByteArray) : (Value.string s) = encStr s.data.toList := by
  show Value.string s = Value.string ⟨s.data.toList.toArray⟩
  simp
theorem imp_of {H : Type} {enc : TypeId × Value → H} {W : World} {fuel : Nat} {cs : List Value} {x : DataW H × List MemPlace}
    (h : DataW.trod enc Tryz.prog W 0 (fun _ => true) true fuel 69 cs = some x) : ∃ (s : Nm) (q al hi : Bool) (sa : ByteArray) (on : Option Addr) (n c : Nat), cs = [encStr s, .bool q, .string sa, .bool al, .bool hi, .slice on n c] ∧ s.length ≤ maxLen := by
  obtain ⟨xs, n, _, rfl, hl, hlen, hf⟩ := DataW.trod_struct Tryz.underlying69 h
  rw [cellsIm] at hl
  match xs, hlen with
  | [y0, y1, y2, y3, y4, y5], _ =>
    have f0 := hf 0 _ rfl
    have f1 := hf 1 _ rfl
    have f2 := hf 2 _ rfl
    have f3 := hf 3 _ rfl
    have f4 := hf 4 _ rfl
    have f5 := hf 5 _ rfl
    match cs, hl with
    | [u0, u1, u2, u3, u4, u5], _ =>
      simp [cellsStr, cellsBool, cellsExs] at f0 f1 f2 f3 f4 f5
      obtain ⟨s0, e0, -, g0⟩ := DataW.trod_string Tryz.underlying9 f0
      obtain ⟨b1, e1, -⟩ := DataW.trod_bool Tryz.underlying4 f1
      obtain ⟨s2, e2, -, -⟩ := DataW.trod_string Tryz.underlying9 f2
      obtain ⟨b3, e3, -⟩ := DataW.trod_bool Tryz.underlying4 f3
      obtain ⟨b4, e4, -⟩ := DataW.trod_bool Tryz.underlying4 f4
      obtain ⟨oa, m, c, e5⟩ := slice_form Tryz.underlying38 f5
      simp only [List.cons.injEq, and_true] at e0 e1 e2 e3 e4 e5
      exact ⟨s0.data.toList, b1, b3, b4, s2, oa, m, c, by rw [e0, e1, e2, e3, e4, e5, str_form s0], by simpa using g0⟩
theorem imps_of {H : Type} {enc : TypeId × Value → H} {W : World} {fuel : Nat} {cs : List Value} {x : DataW H × List MemPlace}
    (h : DataW.trod enc Tryz.prog W 0 (fun _ => true) true fuel 39 cs = some x) : ∃ oi ni ci im, cs = [.slice oi ni ci] ∧ Imz W oi ni im ∧ ∀ s ∈ im, s.length ≤ maxLen := by
  rcases Go.Deep.open_slice Tryz.underlying39 h with ⟨rfl, -⟩ | ⟨b, n, c, m, f, D, P, rfl, -, hl, hcm, hm, -, hx⟩
  · exact ⟨none, 0, 0, [], rfl, ⟨rfl, fun k hk => absurd hk (by simp)⟩, fun t ht => absurd ht List.not_mem_nil⟩
  · simp only [if_true] at hm
    obtain ⟨b, off, spot⟩ := b
    have hsp : 0 < n → spot = none := by
      intro h0
      obtain ⟨cs, h1, h2⟩ := hx 0 (by omega)
      obtain ⟨-, -, hcc⟩ := World.cells?_some h1
      rw [cellsIm] at hcc
      obtain ⟨s, q, al, hi', sa, on, n', c', rfl, hs⟩ := imp_of h2
      have g0 := hcc 0 (by omega)
      simpa [Addr.add] using World.cell?_spot g0
    have each : ∀ i, i < n → ∃ t : Nm, spot = none ∧ IC W b (off + i * 6) t ∧ t.length ≤ maxLen := by
      intro i hi
      obtain ⟨cs, h1, h2⟩ := hx i (by omega)
      obtain ⟨s, q, al, hi', sa, on, n', c', rfl, hs⟩ := imp_of h2
      obtain ⟨-, -, hcc⟩ := World.cells?_some h1
      rw [cellsIm] at hcc
      have g0 := hcc 0 (by omega)
      have g1 := hcc 1 (by omega)
      have g2 := hcc 2 (by omega)
      have g3 := hcc 3 (by omega)
      have g4 := hcc 4 (by omega)
      have g5 := hcc 5 (by omega)
      rw [Addr.add_add] at g0 g1 g2 g3 g4 g5
      have hspot := hsp (by omega)
      subst hspot
      rw [add_plain] at g0 g1 g2 g3 g4 g5
      exact ⟨s, rfl, ⟨q, al, hi', sa, on, n', c', g0, g1, g2, g3, g4, g5⟩, hs⟩
    obtain ⟨f, hf⟩ := Go.Deep.choose_lt each
    refine ⟨some ⟨b, off, spot⟩, n, c, (List.range n).map f, rfl, ⟨by simp, fun k hk => ?_⟩, fun t ht => ?_⟩
    · simp only [List.length_map, List.length_range] at hk
      obtain ⟨rfl, g, -⟩ := hf k hk
      refine ⟨b, off, rfl, ?_⟩
      rw [nAt_get (by simpa using hk)]
      simpa using g
    · obtain ⟨k, hk, rfl⟩ := List.mem_map.1 ht
      exact (hf k (List.mem_range.1 hk)).2.2
theorem mod_of {H : Type} {enc : TypeId × Value → H} {W : World} {fuel : Nat} {cs : List Value} {x : DataW H × List MemPlace}
    (h : DataW.trod enc Tryz.prog W 0 (fun _ => true) true fuel 42 cs = some x) : ∃ (m : Md) (al : Bool) (ox oi od : Option Addr) (nx cx ni ci nd cd : Nat), cs = [encStr m.nm, .bool al, .slice ox nx cx, .slice oi ni ci, .slice od nd cd] ∧ Imz W oi ni m.im ∧ SzM m := by
  obtain ⟨xs, n, _, rfl, hl, hlen, hf⟩ := DataW.trod_struct Tryz.underlying42 h
  rw [cellsMd] at hl
  match xs, hlen with
  | [y0, y1, y2, y3, y4], _ =>
    have f0 := hf 0 _ rfl
    have f1 := hf 1 _ rfl
    have f2 := hf 2 _ rfl
    have f3 := hf 3 _ rfl
    have f4 := hf 4 _ rfl
    match cs, hl with
    | [u0, u1, u2, u3, u4], _ =>
      simp [cellsStr, cellsBool, cellsExs, cellsIms, cellsDes] at f0 f1 f2 f3 f4
      obtain ⟨s0, e0, -, g0⟩ := DataW.trod_string Tryz.underlying9 f0
      obtain ⟨b1, e1, -⟩ := DataW.trod_bool Tryz.underlying4 f1
      obtain ⟨ox, nx, cx, e2⟩ := slice_form Tryz.underlying38 f2
      obtain ⟨oi, ni, ci, im, e3, hi, hs⟩ := imps_of f3
      obtain ⟨od, nd, cd, e4⟩ := slice_form Tryz.underlying40 f4
      simp only [List.cons.injEq, and_true] at e0 e1 e2 e3 e4
      exact ⟨⟨s0.data.toList, im⟩, b1, ox, oi, od, nx, cx, ni, ci, nd, cd, by rw [e0, e1, e2, e3, e4, str_form s0], hi, by simpa using g0, hs⟩
instance : Inhabited Md := ⟨⟨[], []⟩⟩
theorem mods_of {H : Type} {enc : TypeId × Value → H} {W : World} {a : Option Addr} {n c : Nat} {d : DataW H} {p : List MemPlace}
    (h : DataW.Trod enc Tryz.prog W 0 (fun _ => true) true 22 (.slice a n c) d p) : ∃ l, Mdz W a n l ∧ n ≤ maxLen ∧ ∀ m ∈ l, SzM m := by
  obtain ⟨fuel, hf⟩ := h
  rcases Go.Deep.open_slice Tryz.underlying22 hf with ⟨hcs, -⟩ | ⟨b, len, cap, m, f, D, P, hcs, -, hl, hcm, hm, -, hx⟩
  · simp [Value.cells] at hcs
    obtain ⟨rfl, rfl, rfl⟩ := hcs
    exact ⟨[], ⟨rfl, fun k hk => absurd hk (by simp)⟩, Nat.zero_le _, fun t ht => absurd ht List.not_mem_nil⟩
  · simp [Value.cells] at hcs
    obtain ⟨rfl, rfl, rfl⟩ := hcs
    simp only [if_true] at hm
    obtain ⟨b, off, spot⟩ := b
    have hsp : 0 < n → spot = none := by
      intro h0
      obtain ⟨cs, h1, h2⟩ := hx 0 (by omega)
      obtain ⟨-, -, hcc⟩ := World.cells?_some h1
      rw [cellsMd] at hcc
      obtain ⟨md, al, ox, oi, od, nx, cx, ni, ci, nd, cd, rfl, hI, hs⟩ := mod_of h2
      have g0 := hcc 0 (by omega)
      simpa [Addr.add] using World.cell?_spot g0
    have each : ∀ i, i < n → ∃ t : Md, spot = none ∧ MC W b (off + i * 5) t ∧ SzM t := by
      intro i hi
      obtain ⟨cs, h1, h2⟩ := hx i (by omega)
      obtain ⟨md, al, ox, oi, od, nx, cx, ni, ci, nd, cd, rfl, hI, hs⟩ := mod_of h2
      obtain ⟨-, -, hcc⟩ := World.cells?_some h1
      rw [cellsMd] at hcc
      have g0 := hcc 0 (by omega)
      have g1 := hcc 1 (by omega)
      have g2 := hcc 2 (by omega)
      have g3 := hcc 3 (by omega)
      have g4 := hcc 4 (by omega)
      rw [Addr.add_add] at g0 g1 g2 g3 g4
      have hspot := hsp (by omega)
      subst hspot
      rw [add_plain] at g0 g1 g2 g3 g4
      exact ⟨md, rfl, ⟨al, ox, oi, od, nx, cx, ni, ci, nd, cd, g0, g1, g2, g3, g4, hI⟩, hs⟩
    obtain ⟨f, hf⟩ := Go.Deep.choose_lt each
    refine ⟨(List.range n).map f, ⟨by simp, fun k hk => ?_⟩, by omega, fun t ht => ?_⟩
    · simp only [List.length_map, List.length_range] at hk
      obtain ⟨rfl, g, -⟩ := hf k hk
      refine ⟨b, off, rfl, ?_⟩
      rw [mdAt_get (by simpa using hk)]
      simpa using g
    · obtain ⟨k, hk, rfl⟩ := List.mem_map.1 ht
      exact (hf k (List.mem_range.1 hk)).2.2
end Go.Proofs.YtigmdiagdlbdpaaGreat
