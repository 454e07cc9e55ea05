/-
  WALKS. The scanner's main method as a whole; Lex.
-/
import Derived.Test.YtakojceggpljoaaGreatDoorLScn0
namespace Go.Proofs.YtakojceggpljoaaGreatDoor
open Go.RowKit Go.Maps
section
variable {W w : World} {b : Nat} {s : ByteArray}
theorem scan_body : Tryz.f23.body = some (Code.scope (((Tryz.f23.body).bind scopeOf).getD .skip)) := by kernel_rfl
theorem scan_find (l : Nat) (h : (findLabel (((Tryz.f23.body).bind scopeOf).getD .skip) l).isSome = true) : findLabel (((Tryz.f23.body).bind scopeOf).getD .skip) l = some (restAt Tryz.f23.body l) := by
  have e : restAt Tryz.f23.body l = (findLabel (((Tryz.f23.body).bind scopeOf).getD .skip) l).getD .skip := by
    unfold restAt
    have : (Tryz.f23.body).bind scopeOf = some (((Tryz.f23.body).bind scopeOf).getD .skip) := by kernel_rfl
    conv => lhs; rw [this]
    rfl
  rw [e]
  cases hf : findLabel (((Tryz.f23.body).bind scopeOf).getD .skip) l with
  | none => rw [hf] at h; cases h
  | some c => rfl
theorem passes {W w0 w : World} {b g : Nat} {s : ByteArray} {R : LL} (hz : s.size ≤ 65536) (n l : Nat) (a : Act) (hJ : JJ W w0 b g s R n l a w) :
    ∃ rest, findLabel (((Tryz.f23.body).bind scopeOf).getD .skip) l = some rest ∧ rest.wp Tryz.prog (jumps (fun l' a' w' => ∃ n', n' < n ∧ JJ W w0 b g s R n' l' a' w') (ScQ W w0 b g s R)) a w := by
  have hl : l ≤ 10 := by
    by_cases h : l ≤ 10
    · exact h
    · exfalso
      obtain ⟨m, rfl⟩ : ∃ m, l = m + 11 := ⟨l - 11, by omega⟩
      obtain ⟨_, _, _, _, _, _, _, _, _, _, hU, _⟩ := hJ
      exact hU
  refine ⟨restAt Tryz.f23.body l, scan_find l ?_, ?_⟩
  · have : l = 0 ∨ l = 1 ∨ l = 2 ∨ l = 3 ∨ l = 4 ∨ l = 5 ∨ l = 6 ∨ l = 7 ∨ l = 8 ∨ l = 9 ∨ l = 10 := by omega
    rcases this with rfl | rfl | rfl | rfl | rfl | rfl | rfl | rfl | rfl | rfl | rfl <;> rfl
  · have : l = 0 ∨ l = 1 ∨ l = 2 ∨ l = 3 ∨ l = 4 ∨ l = 5 ∨ l = 6 ∨ l = 7 ∨ l = 8 ∨ l = 9 ∨ l = 10 := by omega
    rcases this with rfl | rfl | rfl | rfl | rfl | rfl | rfl | rfl | rfl | rfl | rfl
    · exact pass0 hz hJ
    · exact pass1 hz hJ
    · exact pass2 hz hJ
    · exact pass3 hz hJ
    · exact pass4 hz hJ
    · exact pass5 hz hJ
    · exact pass6 hz hJ
    · exact pass7 hz hJ
    · exact pass8 hz hJ
    · exact pass9 hJ
    · exact pass10 hz hJ
set_option maxRecDepth 100000 in
set_option maxHeartbeats 2000000 in
theorem scan_p {B0 : At} (hQ : Q W w) (hWb : W.heap.size ≤ b) (hS : Scn w b s B0 (pos s 0) (.slice none 0 0) F0) (hz : s.size ≤ 65536) :
    Calls Tryz.prog 23 #[.pointer (some ⟨b, 0, none⟩)] w fun r w' => r = .returned (.tuple #[]) ∧ Fin W w b w.heap.size s (lexF s s.size 0 []) w' := by
  have hSz := hS.lt
  go_enter Tryz.func23, Tryz.ntmps23
  refine wp_mono (wp_scope_multi (JJ W w b w.heap.size s (lexF s s.size 0 [])) (Q := ScQ W w b w.heap.size s (lexF s s.size 0 [])) ?first (fun n l a w' hJ => passes hz n l a hJ)) ?post
  case post =>
    intro e a w' h
    cases e with
    | ret => exact ⟨h.1, .tuple #[], results_none rfl _ _ _, rfl, h.2⟩
    | normal => exact ⟨h.1, .tuple #[], results_none rfl _ _ _, rfl, h.2⟩
    | exit id => exact h.elim
    | goto l => exact h.elim
    | panic c => exact h.elim
    | outgrown => exact h.elim
  case first =>
    go_wp2
    go_step3
    refine ‹∀ (a : Act) (w : World), Code.wp _ _ _ a w → _› _ _ ?_
    refine wp_mono (pass0t (n := 4 * s.size + 3) hz (JJ.to0 (k := s.size) (i := 0) (B0 := B0) (tk := .slice none 0 0) (ts := []) (t := ⟨0, ⟨#[]⟩, ⟨#[]⟩, 0⟩) rfl rfl (Lib.hid rfl) (by omega) (by omega) (hS.alloc _) ⟨hQ.below ((Below.refl _ _).alloc (Nat.le_refl _) _), hWb, hSz, rfl, by show w.heap.size < (w.heap.push _).size; simp, World.ownsRow_nil _ _ _ _, new_block _ _, by simp, Only.of_below ((Below.refl _ _).alloc (Nat.le_refl _) _)⟩)) ?_
    intro e a w' h
    cases e with
    | goto l => obtain ⟨n', _, hJ⟩ := h; exact ⟨n', hJ⟩
    | ret => exact h
    | normal => exact h
    | exit id => exact h
    | panic c => exact h
    | outgrown => exact h
end
end Go.Proofs.YtakojceggpljoaaGreatDoor
