/-
  NamesUnique returns true for every list of names and every list of calls, in whatever memory, if the listed variables of Go's library hold what their own text lays; both lists read afterwards as they read before. No other condition.
-/
import Derived.Test.YtniejaachfhkdaaDoorLift
import Derived.Test.YtniejaachfhkdaaDoorUniq
import Derived.Test.YtniejaachfhkdaaDoorTie
import Derived.SliceStrings
import Derived.Deep.Slices
import Derived.ChangeSame
import Derived.Carry
import Derived.Test.YtniejaachfhkdaaDoorCards
namespace Go.Proofs.YtniejaachfhkdaaDoor
open Go.ChangeShapes Go.WideShapes Go.ChangeAt Go.RowKit
set_option maxRecDepth 100000
theorem laidOutOk : laidOutB Tryd.prog = true := by kernel_rfl
/-- A slice of strings, opened. -/
theorem strs_of {H : Type} {enc : TypeId × Value → H} {W : World} {a : Option Addr} {n c : Nat} {d : DataW H} {p : List MemPlace}
    (h : DataW.Trod enc Tryd.prog W 0 (fun _ => true) true 33 (.slice a n c) d p) : ∃ ss, Strs W a n ss := by
  obtain ⟨fuel, hf⟩ := h
  rcases open_strings Tryd.underlying33 Tryd.underlying9 (by kernel_rfl) hf with ⟨hcs, -⟩ | ⟨b, len, cap, ss, hcs, -, hl, -, hz, -, hcell, -⟩
  · simp [Value.cells] at hcs
    obtain ⟨rfl, rfl, rfl⟩ := hcs
    exact ⟨[], rfl, fun k hk => absurd hk (by simp)⟩
  · simp [Value.cells] at hcs
    obtain ⟨rfl, rfl, rfl⟩ := hcs
    simp only [if_true] at hz
    refine ⟨ss.take n, by simp; omega, fun k hk => ?_⟩
    simp only [List.length_take] at hk
    obtain ⟨b, off, spot⟩ := b
    have hspot : spot = none := by simpa [Addr.add] using World.cell?_spot (hcell 0 (by omega))
    subst hspot
    have hc := hcell k (by omega)
    rw [add_plain] at hc
    refine ⟨b, off, rfl, ?_, cell_lt hc⟩
    rw [hc]
    simp [List.getD_eq_getElem?_getD, List.getElem?_eq_getElem (show k < ss.length by omega)]
/-- A call, opened. -/
theorem op_of {H : Type} {enc : TypeId × Value → H} {W : World} {fuel : Nat} {cs : List Value} {x : DataW H × List MemPlace}
    (h : DataW.trod enc Tryd.prog W 0 (fun _ => true) true fuel 39 cs = some x) : ∃ i s, cs = [.int .i64 i, .string s] := by
  obtain ⟨y0, y1, n, -, hl, h0, h1⟩ := trod_struct2 Tryd.underlying39 h
  have hc : Tryd.prog.cellsOf 39 = 2 := by kernel_rfl
  have hi : Tryd.prog.cellsOf 3 = 1 := by kernel_rfl
  have hs : Tryd.prog.cellsOf 9 = 1 := by kernel_rfl
  rw [hc] at hl
  match cs, hl with
  | [u, v], _ =>
    simp only [hi, hs, List.drop_zero, List.drop_succ_cons, List.take_succ_cons, List.take_zero] at h0 h1
    obtain ⟨i, e0, -, -⟩ := DataW.trod_int Tryd.underlying3 h0
    obtain ⟨s, e1, -, -⟩ := DataW.trod_string Tryd.underlying9 h1
    simp only [List.cons.injEq, and_true] at e0 e1
    exact ⟨i, s, by rw [e0, e1]⟩
/-- A slice of calls, opened. -/
theorem ops_of {H : Type} {enc : TypeId × Value → H} {W : World} {a : Option Addr} {n c : Nat} {d : DataW H} {p : List MemPlace}
    (h : DataW.Trod enc Tryd.prog W 0 (fun _ => true) true 34 (.slice a n c) d p) : ∃ ops, OpsR W a n ops := by
  obtain ⟨fuel, hf⟩ := h
  have hc2 : Tryd.prog.cellsOf 39 = 2 := by kernel_rfl
  rcases Go.Deep.open_slice Tryd.underlying34 hf with ⟨hcs, -⟩ | ⟨b, len, cap, m, f, D, P, hcs, -, hl, -, hm, -, hx⟩
  · simp [Value.cells] at hcs
    obtain ⟨rfl, rfl, rfl⟩ := hcs
    exact ⟨[], rfl, fun k hk => absurd hk (by simp)⟩
  · simp [Value.cells] at hcs
    obtain ⟨rfl, rfl, rfl⟩ := hcs
    simp only [if_true] at hm
    obtain ⟨b, off, spot⟩ := b
    have hsp : 0 < n → spot = none := by
      intro h0
      obtain ⟨cs, h1, h2⟩ := hx 0 (by omega)
      obtain ⟨-, -, hcc⟩ := World.cells?_some h1
      rw [hc2] at hcc
      obtain ⟨u, s, rfl⟩ := op_of h2
      have g0 := hcc 0 (by omega)
      simpa [Addr.add] using World.cell?_spot g0
    have each : ∀ i, i < n → ∃ y : Int × ByteArray, spot = none ∧ W.cell? ⟨b, off + i * 2, none⟩ = some (.int .i64 y.1) ∧ W.cell? ⟨b, off + i * 2 + 1, none⟩ = some (.string y.2) := by
      intro i hi
      obtain ⟨cs, h1, h2⟩ := hx i (by omega)
      obtain ⟨u, s, rfl⟩ := op_of h2
      obtain ⟨-, -, hcc⟩ := World.cells?_some h1
      rw [hc2] at hcc
      have g0 := hcc 0 (by omega)
      have g1 := hcc 1 (by omega)
      rw [Addr.add_add] at g0 g1
      have hspot := hsp (by omega)
      subst hspot
      rw [add_plain] at g0 g1
      exact ⟨(u, s), rfl, g0, g1⟩
    obtain ⟨f, hf⟩ := Go.Deep.choose_lt each
    refine ⟨(List.range n).map f, by simp, fun k hk => ?_⟩
    simp only [List.length_map, List.length_range] at hk
    obtain ⟨rfl, g0, g1⟩ := hf k hk
    refine ⟨b, off, rfl, ?_, ?_, cell_lt g0⟩
    · rw [g0]; simp
    · rw [g1]; simp
theorem namesUnique_lifted (os : Os) (started : os.Started) (H : Type) (enc : TypeId × Value → H) :
    ReturnsInHanded {} Tryd.checked os 5 .any (fun w args => (Rows.namesUniqueSpec.pre enc Tryd.prog Tryd.f5 [] false w args ∧ laidMetH Tryd.prog Rows.namesNilRow.laid w) ∧ sizedMet enc Tryd.prog Tryd.f5 (OpenSpec.ofChange Rows.namesUniqueSpec) false w args)
      (Rows.namesUniqueSpec.post enc Tryd.prog Tryd.f5 false true false false) := by
  refine lift_law started (by kernel_rfl) Tryd.func5
    (ChangeSpec.witness_shaped (enc := enc) (C := Tryd.checked) (os := os) (X := fun w _ => laidMetH Tryd.prog Rows.namesNilRow.laid w) false (World.laidAll Tryd.prog os Rows.namesNilRow.laid) #[.slice none 0 0, .slice none 0 0] 8 (World.laidAll_os _ _ _)
      (World.shaped_of_ZipB (by kernel_rfl) (by kernel_rfl)) (by kernel_rfl) (by kernel_rfl) (by kernel_rfl)
      (by rw [MakeChecks.laidMetH_plain _ _ _ (by kernel_rfl)]; exact laidMet_laidAll _ (by kernel_rfl) (by kernel_rfl))) ?_
  intro W base args ds gs before hval hW _ hq
  have hW' := hW
  obtain ⟨p, q, hA, hV, rfl, _, _⟩ := hW
  rw [Tryd.params5] at hA hval
  obtain ⟨v0, v1, d0, d1, p0, p1, rfl, rfl, rfl, h0, h1⟩ := trodAll_two hA
  obtain ⟨rfl, rfl⟩ := trodVars_none hV
  obtain ⟨a0, n0, c0, rfl⟩ := okWide_slice Tryd.underlying33 (hval 0 33 v0 rfl rfl)
  obtain ⟨a1, n1, c1, rfl⟩ := okWide_slice Tryd.underlying34 (hval 1 34 v1 rfl rfl)
  simp only [List.append_nil] at hW'
  have hlt : ∀ x ∈ p0 ++ p1, x.block < W.heap.size := fun x hx => by simpa using hW'.lt x hx
  obtain ⟨ss, hr⟩ := strs_of h0
  obtain ⟨ops, ho⟩ := ops_of h1
  refine (NamesUnique_walk a0 a1 n0 c0 n1 c1 ss ops W hq hr ho).mono fun e W' ⟨he, hq'⟩ => ?_
  subst he
  exact ⟨_, rfl, _, _, _, [], p0 ++ p1, [], hW', trodAll_mk1 (shut_bool Tryd.underlying4 _), trodAll_mk2 (Below.trod laidOutOk (by kernel_rfl) (of_decide_eq_true (by kernel_rfl)) h0 hq'.bel fun x hx => hlt x (List.mem_append_left _ hx)) (Below.trod laidOutOk (by kernel_rfl) (of_decide_eq_true (by kernel_rfl)) h1 hq'.bel fun x hx => hlt x (List.mem_append_right _ hx)), rfl, hq'.bel.frame _, fun h => by cases h⟩
theorem namesUnique_holds : Rows.NamesUniqueSaid :=
  OpenClaim.holds_of_wide 5 Tryd.f5 rfl rfl rfl rfl rfl rfl rfl ⟨rfl, rfl, rfl, rfl, rfl⟩ rfl rfl rfl rfl rfl (by kernel_rfl) Tryd.func5 (by kernel_rfl)
    (of_decide_eq_true (by kernel_rfl)) (by unfold Func.isWrapper; first | (rw [if_pos (by decide +kernel)]; kernel_rfl) | (rw [if_neg (by decide +kernel)]; exact ⟨rfl, rfl⟩))
    (fun os started H enc _ => namesUnique_lifted os started H enc)
theorem namesUnique_card : Rows.NamesUniqueCardSaid :=
  Claim7.holds_tied_plain_at .later [] [.data, .data, .data, .data, .sentinel, .sentinel, .pinned] true (true, "c3861f2c260119c555af9dff6776b7a9c97309c7fe8f359b93c32a6ac9e0e0c2") true namesUnique_holds (fun _ h => by cases h) (by kernel_rfl) (fun _ h => by cases h) namesUnique_row_tie rfl ⟨rfl, rfl⟩ (by kernel_rfl) rfl
    (fun f fn hf hfn => by
      obtain rfl : f = 5 := Option.some.inj ((show Tryd.prog.funcNamed "lazyc/lazyclaw01.NamesUnique" = some 5 by kernel_rfl).symm.trans hf) |>.symm
      obtain rfl : fn = Tryd.f5 := (Option.some.inj (Tryd.func5.symm.trans hfn)).symm
      exact ⟨by kernel_rfl, fun j t ht => by
        rw [Tryd.params5] at ht
        have hm : t ∈ [33, 34] := by simpa using Array.mem_of_getElem? ht
        have hall : ([33, 34].all fun u => !Tryd.prog.wantsStandIn u) = true := by kernel_rfl
        exact (show Tryd.prog.wantsStandIn t = false by simpa using List.all_eq_true.1 hall t hm)⟩)
    (by kernel_rfl)
end Go.Proofs.YtniejaachfhkdaaDoor
