/-
  LexerBlanks returns true for every list of tokens and every string, in whatever memory, if the listed variables of Go's library hold what their own text lays; the list reads afterwards as it read before. No other condition.
-/
import Derived.Test.YtelichlplblboaaGreatDoorLiftL
import Derived.Test.YtelichlplblboaaGreatDoorLq3
import Derived.Test.YtelichlplblboaaGreatDoorTie
import Derived.Test.YtelichlplblboaaGreatDoorCards
namespace Go.Proofs.YtelichlplblboaaGreatDoor
open Go.ChangeShapes Go.WideShapes Go.ChangeAt Go.RowKit
set_option maxRecDepth 100000
theorem LexerBlanks_walk (oa : Option Addr) (n ca : Nat) (ts : List Tok) (b : ByteArray) (W : World) (hq : Q W W) (ha : Tks W oa n ts) (hn : n ≤ maxLen) (hb : ∀ t ∈ ts, TokB t) :
    Calls Tryz.prog 9 #[.slice oa n ca, .string b] W fun e w' => e = .returned (.bool true) ∧ Q W w' := by
  have key : Calls Tryz.prog 9 #[.slice oa n ca, .string b] W fun e w' => e = .returned (.bool true) ∧ Only (fun _ => False) W w' := by
    by_cases h1 : n ≤ 100
    · cases hf : fewL ts
      · exact Blanks_bad W W hq oa n ca ts b hn ha (.inr (.inl ⟨h1, hf⟩))
      · by_cases h2 : b.size ≤ 100
        · by_cases hx : lexP b = .ok []
          · exact Blanks_yes W W hq oa n ca ts b h1 ha hf hb h2 hx
          · exact Blanks_tok W W hq oa n ca ts b h1 ha hf h2 hx
        · exact Blanks_bad W W hq oa n ca ts b hn ha (.inr (.inr ⟨h1, hf, by omega⟩))
    · exact Blanks_bad W W hq oa n ca ts b hn ha (.inl (by omega))
  exact key.mono fun e w' ⟨he, ho⟩ => ⟨he, hq.only ho (fun _ h => h.elim)⟩
theorem lexerBlanks_lifted (os : Os) (started : os.Started) (H : Type) (enc : TypeId × Value → H) :
    ReturnsInHanded {} Tryz.checked os 9 .any (fun w args => (Rows.lexerBlanksSpec.pre enc Tryz.prog Tryz.f9 [] false w args ∧ laidMetH Tryz.prog Rows.lexerBlanksRow.laid w) ∧ sizedMet enc Tryz.prog Tryz.f9 (OpenSpec.ofChange Rows.lexerBlanksSpec) false w args)
      (Rows.lexerBlanksSpec.post enc Tryz.prog Tryz.f9 false true false false) := by
  refine lift_law started (by kernel_rfl) Tryz.func9
    (ChangeSpec.witness_shaped (enc := enc) (C := Tryz.checked) (os := os) (X := fun w _ => laidMetH Tryz.prog Rows.lexerBlanksRow.laid w) false (World.laidAll Tryz.prog os Rows.lexerBlanksRow.laid) #[.slice none 0 0, .string ⟨#[]⟩] 8 (World.laidAll_os _ _ _)
      (World.shaped_of_ZipB (by kernel_rfl) (by kernel_rfl)) (by kernel_rfl) (by kernel_rfl) (by kernel_rfl)
      (by rw [MakeChecks.laidMetH_plain _ _ _ (by kernel_rfl)]; exact laidMet_laidAll _ (by kernel_rfl) (by kernel_rfl))) ?_
  intro W base args ds gs before hval hW _ hq
  have hW' := hW
  obtain ⟨p, q, hA, hV, rfl, _, _⟩ := hW
  rw [Tryz.params9] at hA hval
  obtain ⟨v0, v1, d0, d1, p0, p1, rfl, rfl, rfl, h0, h1⟩ := trodAll_two hA
  obtain ⟨rfl, rfl⟩ := trodVars_none hV
  obtain ⟨a0, n0, c0, rfl⟩ := okWide_slice Tryz.underlying23 (hval 0 23 v0 rfl rfl)
  obtain ⟨x1, rfl, rfl, rfl, w1⟩ := Go.ChangeMaps.open_string Tryz.underlying9 (hval 1 9 v1 rfl rfl) h1
  simp only [List.append_nil] at hW'
  have hlt : ∀ x ∈ p0, x.block < W.heap.size := fun x hx => by simpa using hW'.lt x hx
  obtain ⟨ts, hr, hn, hb⟩ := toks_of' h0
  refine (LexerBlanks_walk a0 n0 c0 ts x1 W hq hr hn hb).mono fun e W' ⟨he, hq'⟩ => ?_
  subst he
  exact ⟨_, rfl, _, _, _, [], p0, [], hW', trodAll_mk1 (shut_bool Tryz.underlying4 _), by
    have h := trodAll_mk2 (Below.trod laidOutOk (by kernel_rfl) (of_decide_eq_true (by kernel_rfl)) h0 hq'.bel hlt) (Go.ChangeMaps.shut_string (enc := enc) (w := W') Tryz.underlying9 w1)
    simp only [List.append_nil] at h
    exact h, rfl, hq'.bel.frame _, fun h => by cases h⟩
theorem lexerBlanks_holds : Rows.LexerBlanksSaid :=
  OpenClaim.holds_of_wide 9 Tryz.f9 rfl rfl rfl rfl rfl rfl rfl ⟨rfl, rfl, rfl, rfl, rfl⟩ rfl rfl rfl rfl rfl (by kernel_rfl) Tryz.func9 (by kernel_rfl)
    (of_decide_eq_true (by kernel_rfl)) (by unfold Func.isWrapper; first | (rw [if_pos (by decide +kernel)]; kernel_rfl) | (rw [if_neg (by decide +kernel)]; exact ⟨rfl, rfl⟩))
    (fun os started H enc _ => lexerBlanks_lifted os started H enc)
theorem lexerBlanks_card : Rows.LexerBlanksCardSaid :=
  Claim7.holds_tied_plain_at .later [] [.data, .data, .data, .data, .sentinel, .sentinel, .pinned] true (true, "641a6eedb85e9fcdfc4a04b463ac295cc2ee5868a244e0a5b5af0ed3d49ea37c") true lexerBlanks_holds (fun _ h => by cases h) (by kernel_rfl) (fun _ h => by cases h) lexerBlanks_row_tie rfl ⟨rfl, rfl⟩ (by kernel_rfl) rfl
    (fun f fn hf hfn => by
      obtain rfl : f = 9 := Option.some.inj ((show Tryz.prog.funcNamed "lazyc/lazyclaw02.LexerBlanks" = some 9 by kernel_rfl).symm.trans hf) |>.symm
      obtain rfl : fn = Tryz.f9 := (Option.some.inj (Tryz.func9.symm.trans hfn)).symm
      exact ⟨by kernel_rfl, fun j t ht => by
        rw [Tryz.params9] at ht
        have hm : t ∈ [23, 9] := by simpa using Array.mem_of_getElem? ht
        have hall : ([23, 9].all fun u => !Tryz.prog.wantsStandIn u) = true := by kernel_rfl
        exact (show Tryz.prog.wantsStandIn t = false by simpa using List.all_eq_true.1 hall t hm)⟩)
    (by kernel_rfl)
end Go.Proofs.YtelichlplblboaaGreatDoor
