/-
  LexerLexes returns true for every string, in whatever memory, if the listed variables of Go's library hold what their own text lays; the string reads afterwards as it read before. No other condition.
-/
import Derived.Test.YtelichlplblboaaGreatDoorLiftL
import Derived.Test.YtelichlplblboaaGreatDoorLq4
import Derived.Test.YtelichlplblboaaGreatDoorTie
import Derived.Test.YtelichlplblboaaGreatDoorCards
namespace Go.Proofs.YtelichlplblboaaGreatDoor
open Go.ChangeShapes Go.WideShapes Go.ChangeAt Go.RowKit
set_option maxRecDepth 100000
theorem LexerLexes_walk (x0 : ByteArray) (W : World) (hq : Q W W) : Calls Tryz.prog 3 #[.string x0] W fun e w' => e = .returned (.bool true) ∧ Q W w' := by
  by_cases h : x0.size ≤ 3000
  · exact (Lexes_ok W W hq x0 h).mono fun e w' ⟨he, ho⟩ => ⟨he, hq.only ho (fun _ h => h.elim)⟩
  · exact (Lexes_long W W hq x0 (by omega)).mono fun e w' ⟨he, ho⟩ => ⟨he, hq.only ho (fun _ h => h.elim)⟩
theorem lexerLexes_lifted (os : Os) (started : os.Started) (H : Type) (enc : TypeId × Value → H) :
    ReturnsInHanded {} Tryz.checked os 3 .any (fun w args => (Rows.lexerLexesSpec.pre enc Tryz.prog Tryz.f3 [] false w args ∧ laidMetH Tryz.prog Rows.lexerLexesRow.laid w) ∧ sizedMet enc Tryz.prog Tryz.f3 (OpenSpec.ofChange Rows.lexerLexesSpec) false w args)
      (Rows.lexerLexesSpec.post enc Tryz.prog Tryz.f3 false true false false) := by
  refine lift_law started (by kernel_rfl) Tryz.func3
    (ChangeSpec.witness_shaped (enc := enc) (C := Tryz.checked) (os := os) (X := fun w _ => laidMetH Tryz.prog Rows.lexerLexesRow.laid w) false (World.laidAll Tryz.prog os Rows.lexerLexesRow.laid) #[.string ⟨#[]⟩] 8 (World.laidAll_os _ _ _)
      (World.shaped_of_ZipB (by kernel_rfl) (by kernel_rfl)) (by kernel_rfl) (by kernel_rfl) (by kernel_rfl)
      (by rw [MakeChecks.laidMetH_plain _ _ _ (by kernel_rfl)]; exact laidMet_laidAll _ (by kernel_rfl) (by kernel_rfl))) ?_
  intro W base args ds gs before hval hW _ hq
  have hW' := hW
  obtain ⟨p, q, hA, hV, rfl, _, _⟩ := hW
  rw [Tryz.params3] at hA hval
  obtain ⟨v0, d0, rfl, rfl, h0⟩ := trodAll_one hA
  obtain ⟨rfl, rfl⟩ := trodVars_none hV
  obtain ⟨x0, rfl, rfl, rfl, w0⟩ := Go.ChangeMaps.open_string Tryz.underlying9 (hval 0 9 v0 rfl rfl) h0
  simp only [List.append_nil] at hW'
  refine (LexerLexes_walk x0 W hq).mono fun e W' ⟨he, hq'⟩ => ?_
  subst he
  exact ⟨_, rfl, _, _, _, [], [], [], hW', trodAll_mk1 (shut_bool Tryz.underlying4 _), trodAll_mk1 (Go.ChangeMaps.shut_string Tryz.underlying9 w0), rfl, hq'.bel.frame _, fun h => by cases h⟩
theorem lexerLexes_holds : Rows.LexerLexesSaid :=
  OpenClaim.holds_of_wide 3 Tryz.f3 rfl rfl rfl rfl rfl rfl rfl ⟨rfl, rfl, rfl, rfl, rfl⟩ rfl rfl rfl rfl rfl (by kernel_rfl) Tryz.func3 (by kernel_rfl)
    (of_decide_eq_true (by kernel_rfl)) (by unfold Func.isWrapper; first | (rw [if_pos (by decide +kernel)]; kernel_rfl) | (rw [if_neg (by decide +kernel)]; exact ⟨rfl, rfl⟩))
    (fun os started H enc _ => lexerLexes_lifted os started H enc)
theorem lexerLexes_card : Rows.LexerLexesCardSaid :=
  Claim7.holds_tied_plain_at .later [] [.data, .data, .data, .data, .sentinel, .sentinel, .pinned] true (true, "641a6eedb85e9fcdfc4a04b463ac295cc2ee5868a244e0a5b5af0ed3d49ea37c") true lexerLexes_holds (fun _ h => by cases h) (by kernel_rfl) (fun _ h => by cases h) lexerLexes_row_tie rfl ⟨rfl, rfl⟩ (by kernel_rfl) rfl
    (fun f fn hf hfn => by
      obtain rfl : f = 3 := Option.some.inj ((show Tryz.prog.funcNamed "lazyc/lazyclaw02.LexerLexes" = some 3 by kernel_rfl).symm.trans hf) |>.symm
      obtain rfl : fn = Tryz.f3 := (Option.some.inj (Tryz.func3.symm.trans hfn)).symm
      exact ⟨by kernel_rfl, fun j t ht => by
        rw [Tryz.params3] at ht
        have hm : t ∈ [9] := by simpa using Array.mem_of_getElem? ht
        have hall : ([9].all fun u => !Tryz.prog.wantsStandIn u) = true := by kernel_rfl
        exact (show Tryz.prog.wantsStandIn t = false by simpa using List.all_eq_true.1 hall t hm)⟩)
    (by kernel_rfl)
end Go.Proofs.YtelichlplblboaaGreatDoor
