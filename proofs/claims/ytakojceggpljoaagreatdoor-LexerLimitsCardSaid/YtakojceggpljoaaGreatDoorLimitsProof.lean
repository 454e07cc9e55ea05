/-
  LexerLimits returns true for every string and number, in whatever memory, if the listed variables of the library hold what their own text lays; the arguments read afterwards as they read before. No other condition.
-/
import Derived.Test.YtakojceggpljoaaGreatDoorLiftL
import Derived.Test.YtakojceggpljoaaGreatDoorLim
import Derived.Test.YtakojceggpljoaaGreatDoorTie
import Derived.Test.YtakojceggpljoaaGreatDoorCards
namespace Go.Proofs.YtakojceggpljoaaGreatDoor
open Go.ChangeShapes Go.WideShapes Go.ChangeAt Go.RowKit
theorem LexerLimits_walk (x0 : ByteArray) (x1 : Int) (W w : World) (hq : Q W w) : Calls Tryz.prog 4 #[.string x0, .int .i64 x1] w fun e w' => e = .returned (.bool true) ∧ Q W w' := by
  by_cases h : x1 < 0 ∨ 70000 < x1 ∨ 100 < x0.size ∨ 200000 < x1 * x0.size
  · exact (Limits_bad W w hq x0 x1 h).mono fun e w' ⟨he, ho⟩ => ⟨he, hq.only ho (fun _ h => h.elim)⟩
  · have h0 : 0 ≤ x1 ∧ x1 ≤ 70000 ∧ x0.size ≤ 100 := by omega
    obtain ⟨N, hN⟩ : ∃ N : Nat, x1 = (N : Int) := ⟨x1.toNat, by omega⟩
    subst hN
    have h4 : ¬ 200000 < (N : Int) * (x0.size : Int) := fun h' => h (.inr (.inr (.inr h')))
    have e : (N : Int) * (x0.size : Int) = ((N * x0.size : Nat) : Int) := by simp
    rw [e] at h4
    exact (Limits_ok W w hq x0 N (by omega) h0.2.2 (by omega)).mono fun e w' ⟨he, ho⟩ => ⟨he, hq.only ho (fun _ h => h.elim)⟩
set_option maxRecDepth 100000 in
theorem lexerLimits_lifted (os : Os) (started : os.Started) (H : Type) (enc : TypeId × Value → H) :
    ReturnsInHanded {} Tryz.checked os 4 .any (fun w args => (Rows.lexerLimitsSpec.pre enc Tryz.prog Tryz.f4 [] false w args ∧ laidMetH Tryz.prog Rows.lexerLimitsRow.laid w) ∧ sizedMet enc Tryz.prog Tryz.f4 (OpenSpec.ofChange Rows.lexerLimitsSpec) false w args)
      (Rows.lexerLimitsSpec.post enc Tryz.prog Tryz.f4 false true false false) := by
  refine lift_law started (by kernel_rfl) Tryz.func4
    (ChangeSpec.witness_shaped (enc := enc) (C := Tryz.checked) (os := os) (X := fun w _ => laidMetH Tryz.prog Rows.lexerLimitsRow.laid w) false (World.laidAll Tryz.prog os Rows.lexerLimitsRow.laid) #[.string ⟨#[]⟩, .int .i64 0] 8 (World.laidAll_os _ _ _)
      (World.shaped_of_ZipB (by kernel_rfl) (by kernel_rfl)) (by kernel_rfl) (by kernel_rfl) (by kernel_rfl)
      (by rw [MakeChecks.laidMetH_plain _ _ _ (by kernel_rfl)]; exact laidMet_laidAll _ (by kernel_rfl) (by kernel_rfl))) ?_
  intro W base args ds gs before hval hW _ hq
  have hW' := hW
  obtain ⟨p, q, hA, hV, rfl, _, _⟩ := hW
  rw [Tryz.params4] at hA hval
  obtain ⟨v0, v1, d0, d1, p0, p1, rfl, rfl, rfl, h0, h1⟩ := trodAll_two hA
  obtain ⟨rfl, rfl⟩ := trodVars_none hV
  obtain ⟨x0, rfl, rfl, rfl, w0⟩ := Go.ChangeMaps.open_string Tryz.underlying9 (hval 0 9 v0 rfl rfl) h0
  obtain ⟨x1, rfl, rfl, rfl, w1⟩ := open_int Tryz.underlying3 (hval 1 3 v1 rfl rfl) h1
  simp only [List.append_nil] at hW'
  refine (LexerLimits_walk x0 x1 W W hq).mono fun e W' ⟨he, hq'⟩ => ?_
  subst he
  exact ⟨_, rfl, _, _, _, [], [], [], hW', trodAll_mk1 (shut_bool Tryz.underlying4 _), trodAll_mk2 (Go.ChangeMaps.shut_string Tryz.underlying9 w0) (shut_int Tryz.underlying3 w1), rfl, hq'.bel.frame _, fun h => by cases h⟩
theorem lexerLimits_holds : Rows.LexerLimitsSaid :=
  OpenClaim.holds_of_wide 4 Tryz.f4 rfl rfl rfl rfl rfl rfl rfl ⟨rfl, rfl, rfl, rfl, rfl⟩ rfl rfl rfl rfl rfl (by kernel_rfl) Tryz.func4 (by kernel_rfl)
    (of_decide_eq_true (by kernel_rfl)) (by unfold Func.isWrapper; first | (rw [if_pos (by decide +kernel)]; kernel_rfl) | (rw [if_neg (by decide +kernel)]; exact ⟨rfl, rfl⟩))
    (fun os started H enc _ => lexerLimits_lifted os started H enc)
theorem lexerLimits_card : Rows.LexerLimitsCardSaid :=
  Claim7.holds_tied_plain_at .later [] [.data, .data, .data, .data, .sentinel, .sentinel, .pinned] true (true, "641a6eedb85e9fcdfc4a04b463ac295cc2ee5868a244e0a5b5af0ed3d49ea37c") true lexerLimits_holds (fun _ h => by cases h) (by kernel_rfl) (fun _ h => by cases h) lexerLimits_row_tie rfl ⟨rfl, rfl⟩ (by kernel_rfl) rfl
    (fun f fn hf hfn => by
      obtain rfl : f = 4 := Option.some.inj ((show Tryz.prog.funcNamed "lazyc/lazyclaw02.LexerLimits" = some 4 by kernel_rfl).symm.trans hf) |>.symm
      obtain rfl : fn = Tryz.f4 := (Option.some.inj (Tryz.func4.symm.trans hfn)).symm
      exact ⟨by kernel_rfl, fun j t ht => by
        rw [Tryz.params4] at ht
        have hm : t ∈ [9, 3] := by simpa using Array.mem_of_getElem? ht
        have hall : ([9, 3].all fun u => !Tryz.prog.wantsStandIn u) = true := by kernel_rfl
        exact (show Tryz.prog.wantsStandIn t = false by simpa using List.all_eq_true.1 hall t hm)⟩)
    (by kernel_rfl)
end Go.Proofs.YtakojceggpljoaaGreatDoor
