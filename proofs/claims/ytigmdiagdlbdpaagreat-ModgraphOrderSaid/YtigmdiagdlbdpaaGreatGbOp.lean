/-
  FROM WHAT A ROW HAS OF A GRAPH TO WHAT THE WALKS READ.
-/
import Derived.Test.YtigmdiagdlbdpaaGreatGbN
import Derived.Test.YtigmdiagdlbdpaaGreatRows
import Derived.ProofKit
import Derived.OpenShut
import Derived.Deep.Slices
import Derived.Deep.Matrix
import Derived.ChangeSame
import Derived.Carry
import Derived.JoinedCond
import Derived.Deep.CondSized
import Derived.SizedLaws
namespace Go.Proofs.YtigmdiagdlbdpaaGreat
open Go.ChangeShapes Go.WideShapes Go.ChangeAt Go.RowKit Go.Deep
set_option maxRecDepth 100000
theorem own : ownKnob Tryz.prog.godebug = none := by kernel_rfl
theorem laidOutOk : laidOutB Tryz.prog = true := by kernel_rfl
theorem cellsGraph : Tryz.prog.cellsOf 49 = 1 := by kernel_rfl
theorem cellsInts : Tryz.prog.cellsOf 55 = 1 := by kernel_rfl
theorem cellsRows : Tryz.prog.cellsOf 47 = 1 := by kernel_rfl
theorem cellsInt : Tryz.prog.cellsOf 3 = 1 := by kernel_rfl
theorem bytesInts : Tryz.prog.bytesOf 55 = 24 := by kernel_rfl
theorem bytesInt : Tryz.prog.bytesOf 3 = 8 := by kernel_rfl
theorem weightsAll_mem {H : Type} {P : Program} {e : TypeId} {n : Nat} : ∀ {l : List (DataW H)} {d : DataW H}, d ∈ l → n ∈ d.weights P e → n ∈ DataW.weightsAll P e l
  | x :: l, d, hd, hn => by
    simp only [DataW.weightsAll, List.mem_append]
    rcases List.mem_cons.1 hd with rfl | h
    · exact .inl hn
    · exact .inr (weightsAll_mem h hn)
abbrev capB : Nat := 140737488351232
theorem int_rows {H : Type} {enc : TypeId × Value → H} {W : World} {fuel : Nat} {cs : List Value} {x : DataW H × List MemPlace}
    (h : DataW.trod enc Tryz.prog W 0 (fun _ => true) true fuel 47 cs = some x) (hz : ∀ m ∈ x.1.weights Tryz.prog 47, m ≤ capB) : ∃ oE n cE E, cs = [.slice oE n cE] ∧ Edz W oE n E ∧ n ≤ 140737488355328 ∧ ∀ l ∈ E, l.length ≤ 140737488355328 := by
  rcases Go.Deep.open_int_rows Tryz.underlying47 Tryz.underlying55 Tryz.underlying3 cellsInts cellsInt h with ⟨rfl, -⟩ | ⟨a, len, cap, A, L, C, Z, rfl, -, hl, hm, rfl, hx⟩
  · exact ⟨none, 0, 0, [], rfl, ⟨rfl, fun k hk => absurd hk (Nat.not_lt_zero _)⟩, Nat.zero_le _, fun l hl => by cases hl⟩
  · simp only [DataW.weights, Tryz.underlying47] at hz
    have hz0 := hz _ (List.mem_cons_self ..)
    simp only [List.length_map, List.length_range, bytesInts] at hz0
    refine ⟨some a, len, cap, (List.range len).map (fun r => (Z r).take (L r)), rfl, ⟨by simp, fun k hk => ?_⟩, by unfold capB at hz0; omega, fun l hl' => ?_⟩
    · have hk' : k < len := by simpa using hk
      obtain ⟨h1, h2, h3, h4, -, h6, h7⟩ := hx k (by omega)
      obtain ⟨b, off, spot⟩ := a
      have hsp : spot = none := by
        have := World.cell?_spot (hx 0 (by omega)).1
        simpa [Addr.add] using this
      subst hsp
      rw [add_plain] at h1
      refine ⟨b, off, A k, L k, C k, rfl, h1, ?_⟩
      have e : ((List.range len).map (fun r => (Z r).take (L r)))[k] = (Z k).take (L k) := by simp
      rw [e]
      refine ⟨by rw [List.length_take]; omega, fun j hj => ?_⟩
      have hj' := hj
      rw [List.length_take] at hj'
      cases hA : A k with
      | none => have := h6 hA; omega
      | some a' =>
        obtain ⟨-, h8⟩ := h7 a' hA
        have h9 := h8 j (by omega)
        obtain ⟨b', off', spot'⟩ := a'
        have hsp2 : spot' = none := by
          have := World.cell?_spot (h8 0 (by omega))
          simpa [Addr.add] using this
        subst hsp2
        rw [add_plain] at h9
        refine ⟨b', off', rfl, ?_⟩
        rw [h9, List.getElem_take, List.getD_eq_getElem?_getD, List.getElem?_eq_getElem (by omega)]
        rfl
    · obtain ⟨r, hr, rfl⟩ := List.mem_map.1 hl'
      have hr' := List.mem_range.1 hr
      obtain ⟨-, h2, h3, h4, -, h6, -⟩ := hx r (by omega)
      rw [List.length_take]
      cases hA : A r with
      | none => have := h6 hA; omega
      | some a' =>
        have h8 : (L r + (C r - L r)) * 8 ≤ capB := by
          apply hz
          refine List.mem_cons_of_mem _ (List.mem_append_left _ (weightsAll_mem (d := intRow .i64 (A r) (L r) (Z r)) (List.mem_map.2 ⟨r, hr, rfl⟩) ?_))
          rw [hA]
          simp only [Go.Deep.intRow, DataW.weights, Tryz.underlying55, List.mem_cons]
          left
          simp [lits, bytesInt, h4]
          omega
        unfold capB at h8
        omega
theorem graph_of {H : Type} {enc : TypeId × Value → H} {W : World} {v : Value} {d : DataW H} {p : List MemPlace} {b0 : Nat} (hv : Value.okWide Tryz.prog W .any b0 49 v)
    (h : DataW.Trod enc Tryz.prog W 0 (fun _ => true) true 49 v d p) (hz : ∀ m ∈ d.weights Tryz.prog 49, m ≤ capB) : ∃ oE n cE E, v = .agg #[.slice oE n cE] ∧ Edz W oE n E ∧ n ≤ 140737488355328 ∧ ∀ l ∈ E, l.length ≤ 140737488355328 := by
  obtain ⟨cs, rfl, hsz⟩ := okWide_struct Tryz.underlying49 hv
  rw [cellsGraph] at hsz
  obtain ⟨fuel, hf⟩ := h
  obtain ⟨y0, n, hx, -, f0⟩ := trod_struct1 Tryz.underlying49 hf
  simp only [Prod.mk.injEq] at hx
  obtain ⟨hd, -⟩ := hx
  subst hd
  obtain ⟨c0, hc0⟩ : ∃ c0, cs = #[c0] := ⟨cs[0], by
    apply Array.ext
    · simpa using hsz
    · intro i h1 h2
      have : i = 0 := by simp at h2; omega
      subst this
      rfl⟩
  subst hc0
  simp [cellsRows, Value.cells] at f0
  obtain ⟨oE, n, cE, E, h1, h2⟩ := int_rows f0 (fun m hm => hz m (by
    rw [DataW.weights]
    simp [Tryz.underlying49, DataW.weightsEach, hm]))
  simp only [List.cons.injEq, and_true] at h1
  exact ⟨oE, n, cE, E, by rw [h1], h2⟩
end Go.Proofs.YtigmdiagdlbdpaaGreat
