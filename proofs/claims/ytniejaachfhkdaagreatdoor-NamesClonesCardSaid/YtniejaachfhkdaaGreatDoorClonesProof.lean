/-
  NamesClones returns true for every list of names and every two lists of calls, in whatever memory, if the listed variables of Go's library hold what their own text lays; all three read afterwards as they read before. No other condition.
-/
import Derived.Test.YtniejaachfhkdaaGreatDoorLift
import Derived.Test.YtniejaachfhkdaaGreatDoorClones
import Derived.Test.YtniejaachfhkdaaGreatDoorOpen
import Derived.Test.YtniejaachfhkdaaGreatDoorTie
import Derived.Test.YtniejaachfhkdaaGreatDoorCards
namespace Go.Proofs.YtniejaachfhkdaaGreatDoor
open Go.ChangeShapes Go.WideShapes Go.ChangeAt Go.RowKit
set_option maxRecDepth 100000
theorem namesClones_lifted (os : Os) (started : os.Started) (H : Type) (enc : TypeId × Value → H) :
    ReturnsInHanded {} Tryz.checked os 6 .any (fun w args => (Rows.namesClonesSpec.pre enc Tryz.prog Tryz.f6 [] false w args ∧ laidMetH Tryz.prog Rows.namesClassifyRow.laid w) ∧ sizedMet enc Tryz.prog Tryz.f6 (OpenSpec.ofChange Rows.namesClonesSpec) false w args)
      (Rows.namesClonesSpec.post enc Tryz.prog Tryz.f6 false true false false) := by
  refine lift_law started (by kernel_rfl) Tryz.func6
    (ChangeSpec.witness_shaped (enc := enc) (C := Tryz.checked) (os := os) (X := fun w _ => laidMetH Tryz.prog Rows.namesClassifyRow.laid w) false (World.laidAll Tryz.prog os Rows.namesClassifyRow.laid) #[.slice none 0 0, .slice none 0 0, .slice none 0 0] 8 (World.laidAll_os _ _ _)
      (World.shaped_of_ZipB (by kernel_rfl) (by kernel_rfl)) (by kernel_rfl) (by kernel_rfl) (by kernel_rfl)
      (by rw [MakeChecks.laidMetH_plain _ _ _ (by kernel_rfl)]; exact laidMet_laidAll _ (by kernel_rfl) (by kernel_rfl))) ?_
  intro W base args ds gs before hval hW _ hq
  have hW' := hW
  obtain ⟨p, q, hA, hV, rfl, _, _⟩ := hW
  rw [Tryz.params6] at hA hval
  obtain ⟨v0, v1, v2, d0, d1, d2, p0, p1, p2, rfl, rfl, rfl, h0, h1, h2⟩ := trodAll_three hA
  obtain ⟨rfl, rfl⟩ := trodVars_none hV
  obtain ⟨a0, n0, c0, rfl⟩ := okWide_slice Tryz.underlying30 (hval 0 30 v0 rfl rfl)
  obtain ⟨a1, n1, c1, rfl⟩ := okWide_slice Tryz.underlying31 (hval 1 31 v1 rfl rfl)
  obtain ⟨a2, n2, c2, rfl⟩ := okWide_slice Tryz.underlying31 (hval 2 31 v2 rfl rfl)
  simp only [List.append_nil] at hW'
  have hlt := fun x hx => hW'.lt x hx
  obtain ⟨ss, hr⟩ := strs_of h0
  obtain ⟨ops, ho⟩ := ops_of h1
  obtain ⟨ops2, ho2⟩ := ops_of h2
  refine (NamesClones_walk a0 a1 a2 n0 c0 n1 c1 n2 c2 ss ops ops2 W hq hr ho ho2).mono fun e W' ⟨he, hq'⟩ => ?_
  subst he
  exact ⟨_, rfl, _, _, _, [], _, [], hW', trodAll_mk1 (shut_bool Tryz.underlying4 _), trodAll_mk3 (Below.trod laidOutOk (by kernel_rfl) (of_decide_eq_true (by kernel_rfl)) h0 hq'.bel fun x hx => by simpa using hlt x (by simp [hx])) (Below.trod laidOutOk (by kernel_rfl) (of_decide_eq_true (by kernel_rfl)) h1 hq'.bel fun x hx => by simpa using hlt x (by simp [hx])) (Below.trod laidOutOk (by kernel_rfl) (of_decide_eq_true (by kernel_rfl)) h2 hq'.bel fun x hx => by simpa using hlt x (by simp [hx])), rfl, hq'.bel.frame _, fun h => by cases h⟩
theorem namesClones_holds : Rows.NamesClonesSaid :=
  OpenClaim.holds_of_wide 6 Tryz.f6 rfl rfl rfl rfl rfl rfl rfl ⟨rfl, rfl, rfl, rfl, rfl⟩ rfl rfl rfl rfl rfl (by kernel_rfl) Tryz.func6 (by kernel_rfl)
    (of_decide_eq_true (by kernel_rfl)) (by unfold Func.isWrapper; first | (rw [if_pos (by decide +kernel)]; kernel_rfl) | (rw [if_neg (by decide +kernel)]; exact ⟨rfl, rfl⟩))
    (fun os started H enc _ => namesClones_lifted os started H enc)
theorem namesClones_card : Rows.NamesClonesCardSaid :=
  Claim7.holds_tied_plain_at .later [] [.data, .data, .data, .data, .sentinel, .sentinel, .pinned] true (true, "e38f79e49447d02de74033a771f3a27e17c4ebc39d71f9326ea344dab5449109") true namesClones_holds (fun _ h => by cases h) (by kernel_rfl) (fun _ h => by cases h) namesClones_row_tie rfl ⟨rfl, rfl⟩ (by kernel_rfl) rfl
    (fun f fn hf hfn => by
      obtain rfl : f = 6 := Option.some.inj ((show Tryz.prog.funcNamed "lazyc/lazyclaw01.NamesClones" = some 6 by kernel_rfl).symm.trans hf) |>.symm
      obtain rfl : fn = Tryz.f6 := (Option.some.inj (Tryz.func6.symm.trans hfn)).symm
      exact ⟨by kernel_rfl, fun j t ht => by
        rw [Tryz.params6] at ht
        have hm : t ∈ [30, 31, 31] := by simpa using Array.mem_of_getElem? ht
        have hall : ([30, 31, 31].all fun u => !Tryz.prog.wantsStandIn u) = true := by kernel_rfl
        exact (show Tryz.prog.wantsStandIn t = false by simpa using List.all_eq_true.1 hall t hm)⟩)
    (by kernel_rfl)
end Go.Proofs.YtniejaachfhkdaaGreatDoor
