/-
  LexerSame returns true for every two lists of tokens and every line and column, in whatever memory, if the listed variables of Go's library hold what their own text lays; both lists read afterwards as they read before. No other condition.
-/
import Derived.Test.YtakojceggpljoaaGreatDoorLiftL
import Derived.Test.YtakojceggpljoaaGreatDoorSm
import Derived.Test.YtakojceggpljoaaGreatDoorOpenL
import Derived.Test.YtakojceggpljoaaGreatDoorTie
import Derived.Test.YtakojceggpljoaaGreatDoorCards
namespace Go.Proofs.YtakojceggpljoaaGreatDoor
open Go.ChangeShapes Go.WideShapes Go.ChangeAt Go.RowKit
set_option maxRecDepth 100000
theorem LexerSame_walk (oa ob : Option Addr) (n ca m cb : Nat) (line col : Int) (ts us : List Tok) (W : World) (hq : Q W W) (ha : Tks W oa n ts) (hb : Tks W ob m us) :
    Calls Tryz.prog 7 #[.slice oa n ca, .slice ob m cb, .int .i64 line, .int .i64 col] W fun e w' => e = .returned (.bool true) ∧ Q W w' := by
  by_cases h : 300 < n ∨ 300 < m
  · exact (SameL_bad W W hq oa ob n m ca cb line col h).mono fun e w' ⟨he, ho⟩ => ⟨he, hq.only ho (fun _ h => h.elim)⟩
  · exact (SameL_ok W W hq oa ob n m ca cb line col (by omega) (by omega) ts us ha hb).mono fun e w' ⟨he, ho⟩ => ⟨he, hq.only ho (fun _ h => h.elim)⟩
theorem lexerSame_lifted (os : Os) (started : os.Started) (H : Type) (enc : TypeId × Value → H) :
    ReturnsInHanded {} Tryz.checked os 7 .any (fun w args => (Rows.lexerSameSpec.pre enc Tryz.prog Tryz.f7 [] false w args ∧ laidMetH Tryz.prog Rows.lexerSameRow.laid w) ∧ sizedMet enc Tryz.prog Tryz.f7 (OpenSpec.ofChange Rows.lexerSameSpec) false w args)
      (Rows.lexerSameSpec.post enc Tryz.prog Tryz.f7 false true false false) := by
  refine lift_law started (by kernel_rfl) Tryz.func7
    (ChangeSpec.witness_shaped (enc := enc) (C := Tryz.checked) (os := os) (X := fun w _ => laidMetH Tryz.prog Rows.lexerSameRow.laid w) false (World.laidAll Tryz.prog os Rows.lexerSameRow.laid) #[.slice none 0 0, .slice none 0 0, .int .i64 0, .int .i64 0] 8 (World.laidAll_os _ _ _)
      (World.shaped_of_ZipB (by kernel_rfl) (by kernel_rfl)) (by kernel_rfl) (by kernel_rfl) (by kernel_rfl)
      (by rw [MakeChecks.laidMetH_plain _ _ _ (by kernel_rfl)]; exact laidMet_laidAll _ (by kernel_rfl) (by kernel_rfl))) ?_
  intro W base args ds gs before hval hW _ hq
  have hW' := hW
  obtain ⟨p, q, hA, hV, rfl, _, _⟩ := hW
  rw [Tryz.params7] at hA hval
  obtain ⟨v0, v1, v2, v3, d0, d1, d2, d3, p0, p1, p2, p3, rfl, rfl, rfl, h0, h1, h2, h3⟩ := trodAll_four hA
  obtain ⟨rfl, rfl⟩ := trodVars_none hV
  obtain ⟨a0, n0, c0, rfl⟩ := okWide_slice Tryz.underlying23 (hval 0 23 v0 rfl rfl)
  obtain ⟨a1, n1, c1, rfl⟩ := okWide_slice Tryz.underlying23 (hval 1 23 v1 rfl rfl)
  obtain ⟨x2, rfl, rfl, rfl, w2⟩ := open_int Tryz.underlying3 (hval 2 3 v2 rfl rfl) h2
  obtain ⟨x3, rfl, rfl, rfl, w3⟩ := open_int Tryz.underlying3 (hval 3 3 v3 rfl rfl) h3
  simp only [List.append_nil] at hW'
  have hlt : ∀ x ∈ p0 ++ p1, x.block < W.heap.size := fun x hx => by simpa using hW'.lt x hx
  obtain ⟨ts, hr⟩ := toks_of h0
  obtain ⟨us, ho⟩ := toks_of h1
  refine (LexerSame_walk a0 a1 n0 c0 n1 c1 x2 x3 ts us W hq hr ho).mono fun e W' ⟨he, hq'⟩ => ?_
  subst he
  exact ⟨_, rfl, _, _, _, [], p0 ++ p1, [], hW', trodAll_mk1 (shut_bool Tryz.underlying4 _), by
    have h := trodAll_mk4 (Below.trod laidOutOk (by kernel_rfl) (of_decide_eq_true (by kernel_rfl)) h0 hq'.bel fun x hx => hlt x (List.mem_append_left _ hx)) (Below.trod laidOutOk (by kernel_rfl) (of_decide_eq_true (by kernel_rfl)) h1 hq'.bel fun x hx => hlt x (List.mem_append_right _ hx)) (shut_int (enc := enc) (w := W') Tryz.underlying3 w2) (shut_int (enc := enc) (w := W') Tryz.underlying3 w3)
    simp only [List.append_nil] at h
    exact h, rfl, hq'.bel.frame _, fun h => by cases h⟩
theorem lexerSame_holds : Rows.LexerSameSaid :=
  OpenClaim.holds_of_wide 7 Tryz.f7 rfl rfl rfl rfl rfl rfl rfl ⟨rfl, rfl, rfl, rfl, rfl⟩ rfl rfl rfl rfl rfl (by kernel_rfl) Tryz.func7 (by kernel_rfl)
    (of_decide_eq_true (by kernel_rfl)) (by unfold Func.isWrapper; first | (rw [if_pos (by decide +kernel)]; kernel_rfl) | (rw [if_neg (by decide +kernel)]; exact ⟨rfl, rfl⟩))
    (fun os started H enc _ => lexerSame_lifted os started H enc)
theorem lexerSame_card : Rows.LexerSameCardSaid :=
  Claim7.holds_tied_plain_at .later [] [.data, .data, .data, .data, .sentinel, .sentinel, .pinned] true (true, "641a6eedb85e9fcdfc4a04b463ac295cc2ee5868a244e0a5b5af0ed3d49ea37c") true lexerSame_holds (fun _ h => by cases h) (by kernel_rfl) (fun _ h => by cases h) lexerSame_row_tie rfl ⟨rfl, rfl⟩ (by kernel_rfl) rfl
    (fun f fn hf hfn => by
      obtain rfl : f = 7 := Option.some.inj ((show Tryz.prog.funcNamed "lazyc/lazyclaw02.LexerSame" = some 7 by kernel_rfl).symm.trans hf) |>.symm
      obtain rfl : fn = Tryz.f7 := (Option.some.inj (Tryz.func7.symm.trans hfn)).symm
      exact ⟨by kernel_rfl, fun j t ht => by
        rw [Tryz.params7] at ht
        have hm : t ∈ [23, 23, 3, 3] := by simpa using Array.mem_of_getElem? ht
        have hall : ([23, 23, 3, 3].all fun u => !Tryz.prog.wantsStandIn u) = true := by kernel_rfl
        exact (show Tryz.prog.wantsStandIn t = false by simpa using List.all_eq_true.1 hall t hm)⟩)
    (by kernel_rfl)
end Go.Proofs.YtakojceggpljoaaGreatDoor
