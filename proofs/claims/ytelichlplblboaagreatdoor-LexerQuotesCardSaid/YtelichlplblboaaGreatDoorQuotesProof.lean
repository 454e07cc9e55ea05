/-
  LexerQuotes returns true for every string and number, in whatever memory, if the listed variables of Go's library hold what their own text lays; the arguments read afterwards as they read before. No other condition.
-/
import Derived.Test.YtelichlplblboaaGreatDoorLiftL
import Derived.Test.YtelichlplblboaaGreatDoorLqs
import Derived.Test.YtelichlplblboaaGreatDoorTie
import Derived.Test.YtelichlplblboaaGreatDoorCards
namespace Go.Proofs.YtelichlplblboaaGreatDoor
open Go.ChangeShapes Go.WideShapes Go.ChangeAt Go.RowKit
set_option maxRecDepth 100000
theorem LexerQuotes_walk (x0 : ByteArray) (x1 : Int) (W : World) (hq : Q W W) : Calls Tryz.prog 8 #[.string x0, .int .i64 x1] W fun e w' => e = .returned (.bool true) ∧ Q W w' := by
  by_cases h : x0.size ≤ 200
  · by_cases hn : 0 ≤ x1 ∧ x1 ≤ 255
    · exact (Quotes_in W W hq x0 x1 h hn.1 hn.2).mono fun e w' ⟨he, ho⟩ => ⟨he, hq.only ho (fun _ h => h.elim)⟩
    · exact (Quotes_out W W hq x0 x1 h hn).mono fun e w' ⟨he, ho⟩ => ⟨he, hq.only ho (fun _ h => h.elim)⟩
  · exact (Quotes_long W W hq x0 x1 (by omega)).mono fun e w' ⟨he, ho⟩ => ⟨he, hq.only ho (fun _ h => h.elim)⟩
theorem lexerQuotes_lifted (os : Os) (started : os.Started) (H : Type) (enc : TypeId × Value → H) :
    ReturnsInHanded {} Tryz.checked os 8 .any (fun w args => (Rows.lexerQuotesSpec.pre enc Tryz.prog Tryz.f8 [] false w args ∧ laidMetH Tryz.prog Rows.lexerQuotesRow.laid w) ∧ sizedMet enc Tryz.prog Tryz.f8 (OpenSpec.ofChange Rows.lexerQuotesSpec) false w args)
      (Rows.lexerQuotesSpec.post enc Tryz.prog Tryz.f8 false true false false) := by
  refine lift_law started (by kernel_rfl) Tryz.func8
    (ChangeSpec.witness_shaped (enc := enc) (C := Tryz.checked) (os := os) (X := fun w _ => laidMetH Tryz.prog Rows.lexerQuotesRow.laid w) false (World.laidAll Tryz.prog os Rows.lexerQuotesRow.laid) #[.string ⟨#[]⟩, .int .i64 0] 8 (World.laidAll_os _ _ _)
      (World.shaped_of_ZipB (by kernel_rfl) (by kernel_rfl)) (by kernel_rfl) (by kernel_rfl) (by kernel_rfl)
      (by rw [MakeChecks.laidMetH_plain _ _ _ (by kernel_rfl)]; exact laidMet_laidAll _ (by kernel_rfl) (by kernel_rfl))) ?_
  intro W base args ds gs before hval hW _ hq
  have hW' := hW
  obtain ⟨p, q, hA, hV, rfl, _, _⟩ := hW
  rw [Tryz.params8] at hA hval
  obtain ⟨v0, v1, d0, d1, p0, p1, rfl, rfl, rfl, h0, h1⟩ := trodAll_two hA
  obtain ⟨rfl, rfl⟩ := trodVars_none hV
  obtain ⟨x0, rfl, rfl, rfl, w0⟩ := Go.ChangeMaps.open_string Tryz.underlying9 (hval 0 9 v0 rfl rfl) h0
  obtain ⟨x1, rfl, rfl, rfl, w1⟩ := open_int Tryz.underlying3 (hval 1 3 v1 rfl rfl) h1
  simp only [List.append_nil] at hW'
  refine (LexerQuotes_walk x0 x1 W hq).mono fun e W' ⟨he, hq'⟩ => ?_
  subst he
  exact ⟨_, rfl, _, _, _, [], [], [], hW', trodAll_mk1 (shut_bool Tryz.underlying4 _), trodAll_mk2 (Go.ChangeMaps.shut_string Tryz.underlying9 w0) (shut_int Tryz.underlying3 w1), rfl, hq'.bel.frame _, fun h => by cases h⟩
theorem lexerQuotes_holds : Rows.LexerQuotesSaid :=
  OpenClaim.holds_of_wide 8 Tryz.f8 rfl rfl rfl rfl rfl rfl rfl ⟨rfl, rfl, rfl, rfl, rfl⟩ rfl rfl rfl rfl rfl (by kernel_rfl) Tryz.func8 (by kernel_rfl)
    (of_decide_eq_true (by kernel_rfl)) (by unfold Func.isWrapper; first | (rw [if_pos (by decide +kernel)]; kernel_rfl) | (rw [if_neg (by decide +kernel)]; exact ⟨rfl, rfl⟩))
    (fun os started H enc _ => lexerQuotes_lifted os started H enc)
theorem lexerQuotes_card : Rows.LexerQuotesCardSaid :=
  Claim7.holds_tied_plain_at .later [] [.data, .data, .data, .data, .sentinel, .sentinel, .pinned] true (true, "641a6eedb85e9fcdfc4a04b463ac295cc2ee5868a244e0a5b5af0ed3d49ea37c") true lexerQuotes_holds (fun _ h => by cases h) (by kernel_rfl) (fun _ h => by cases h) lexerQuotes_row_tie rfl ⟨rfl, rfl⟩ (by kernel_rfl) rfl
    (fun f fn hf hfn => by
      obtain rfl : f = 8 := Option.some.inj ((show Tryz.prog.funcNamed "lazyc/lazyclaw02.LexerQuotes" = some 8 by kernel_rfl).symm.trans hf) |>.symm
      obtain rfl : fn = Tryz.f8 := (Option.some.inj (Tryz.func8.symm.trans hfn)).symm
      exact ⟨by kernel_rfl, fun j t ht => by
        rw [Tryz.params8] at ht
        have hm : t ∈ [9, 3] := by simpa using Array.mem_of_getElem? ht
        have hall : ([9, 3].all fun u => !Tryz.prog.wantsStandIn u) = true := by kernel_rfl
        exact (show Tryz.prog.wantsStandIn t = false by simpa using List.all_eq_true.1 hall t hm)⟩)
    (by kernel_rfl)
end Go.Proofs.YtelichlplblboaaGreatDoor
