/-
  WALKS. The inserter: bracket.
-/
import Derived.Test.YthblchafjmgmbaaLyM
namespace Go.Proofs.Ythblchafjmgmbaa
open Go.RowKit Go.Maps
section
variable {w : World} {b : Nat} {ve vo : Value} {s : St}
theorem TB.frm {w w' : World} {b g : Nat} {t : Tok} {ve vo ve' vo' : Value} (hT : TB w g t) (hp : Pr w b ve vo g) (f : Frm w b ve vo w' ve' vo') : TB w' g t := (hp.frm f).2.trans hT
theorem mark_step (s : St) (t : Tok) (wd : ByteArray) (h8 : (t.op == 8) = false) : bracketS s t wd = some (if (t.op == 10) && tx t.text [61] then markS s true else s) := by
  unfold bracketS
  simp only [h8, Bool.false_eq_true, if_false]
set_option maxRecDepth 100000 in
set_option maxHeartbeats 8000000 in
theorem bracket_p (h : IS w b ve vo s) (hk : Ok 1 s) (t : Tok) (wd : ByteArray) : Calls Try.prog 24 #[.pointer (some ⟨b, 0, none⟩), tokV t, .string wd] w (StR w b ve vo (bracketS s t wd)) := by
  have hb := h.lt
  have hA : Only (fun _ => False) w (w.alloc (.cells (tokA t) 33)) := (Only.refl _ _).alloc _
  have h0 := h.same hA
  have hok0 : Ok 0 s := hk.less (by omega)
  have HT := Lib.hid (Lib.toList_data t.text)
  have hx : ∀ l, tx t.text l = (t.text.toList == l) := fun l => by unfold tx; rw [HT.out]
  have HX := Lib.hid hx
  clear hx
  cases h10 : (t.op == 10)
  · cases h8 : (t.op == 8)
    · have n8 : (t.op != 8) = true := by simp [bne, h8]
      have HR : Hid (bracketS s t wd = some s) := Lib.hid (by rw [mark_step s t wd h8, h10]; rfl)
      go_enter Try.func24, Try.ntmps24
      go_wp2
      go_ret
      rw [HR.out]
      exact ⟨rfl, h0.x (Frm.keep hA)⟩
    · have n8 : (t.op != 8) = false := by simp [bne, h8]
      have HU : Hid (bracketS s t wd = if tx t.text [40] then some (pushE s (elK 2)) else if tx t.text [91] then some (pushE s (elK 3)) else if tx t.text [123] then some (pushE s ⟨1, 0, wd, false, 0, 0⟩) else if tx t.text [41] then closeB s (isK 2) else if tx t.text [93] then closeB s (isK 3) else if tx t.text [125] then closeB s (isK 1) else if tx t.text [44] then some (commaS (2 * s.els.length + 2) s) else if tx t.text [59] then some (markS s false) else some s) := Lib.hid (by
        unfold bracketS
        simp only [h10, h8, Bool.false_and, Bool.false_eq_true, if_false, if_true])
      cases q40 : (t.text.toList == [40])
      · cases q91 : (t.text.toList == [91])
        · cases q123 : (t.text.toList == [123])
          · cases q41 : (t.text.toList == [41])
            · cases q93 : (t.text.toList == [93])
              · cases q125 : (t.text.toList == [125])
                · cases q44 : (t.text.toList == [44])
                  · cases q59 : (t.text.toList == [59])
                    · have HR : Hid (bracketS s t wd = some s) := Lib.hid (by rw [HU.out]; simp only [HX.out, q40, q91, q123, q41, q93, q125, q44, q59, Bool.false_eq_true, if_false])
                      go_enter Try.func24, Try.ntmps24
                      go_wp2
                      go_ret
                      rw [HR.out]
                      exact ⟨rfl, h0.x (Frm.keep hA)⟩
                    · have HR : Hid (bracketS s t wd = some (markS s false)) := Lib.hid (by rw [HU.out]; simp only [HX.out, q40, q91, q123, q41, q93, q125, q44, q59, Bool.false_eq_true, if_false, if_true])
                      go_enter Try.func24, Try.ntmps24
                      go_wp2_with (go_at_call 41; refine (mark_p h0 hk false).mono ?_; rintro r w1 ⟨rfl, hS1⟩)
                      go_ret
                      rw [HR.out]
                      exact ⟨rfl, hS1.pre hA⟩
                  · have HR : Hid (bracketS s t wd = some (commaS (2 * s.els.length + 2) s)) := Lib.hid (by rw [HU.out]; simp only [HX.out, q40, q91, q123, q41, q93, q125, q44, Bool.false_eq_true, if_false, if_true])
                    go_enter Try.func24, Try.ntmps24
                    go_wp2_with (go_at_call 42; refine (comma_p h0 hk).mono ?_; rintro r w1 ⟨rfl, hS1⟩)
                    go_ret
                    rw [HR.out]
                    exact ⟨rfl, hS1.pre hA⟩
                · cases hc : closeB s (isK 1) with
                  | none =>
                    have HR : Hid (bracketS s t wd = none) := Lib.hid (by rw [HU.out]; simp only [HX.out, q40, q91, q123, q41, q93, q125, Bool.false_eq_true, if_false, if_true, hc])
                    have HC := Lib.hid hc
                    clear hc
                    go_enter Try.func24, Try.ntmps24
                    go_wp2_with (first | (go_at_call 39; refine (isOf_p _ _).mono ?_; rintro r w3 ⟨g3, hg3, rfl, hB3, hO3⟩; have hS3 := h0.same hO3) | (go_at_call 38; refine (closeBlock_p hS3 hk hB3).mono ?_; rw [HC.out]; rintro r w4 ⟨rfl, ve4, vo4, hS4, hF4⟩))
                    go_ret
                    rw [HR.out]
                    exact ⟨rfl, _, _, (Frm.keep (hA.trans hO3)).trans hF4⟩
                  | some s2 =>
                    have HR : Hid (bracketS s t wd = some s2) := Lib.hid (by rw [HU.out]; simp only [HX.out, q40, q91, q123, q41, q93, q125, Bool.false_eq_true, if_false, if_true, hc])
                    have HC := Lib.hid hc
                    clear hc
                    go_enter Try.func24, Try.ntmps24
                    go_wp2_with (first | (go_at_call 39; refine (isOf_p _ _).mono ?_; rintro r w3 ⟨g3, hg3, rfl, hB3, hO3⟩; have hS3 := h0.same hO3) | (go_at_call 38; refine (closeBlock_p hS3 hk hB3).mono ?_; rw [HC.out]; rintro r w4 ⟨rfl, hS4⟩))
                    go_ret
                    rw [HR.out]
                    exact ⟨rfl, hS4.pre (hA.trans hO3)⟩
              · cases hc : closeB s (isK 3) with
                | none =>
                  have HR : Hid (bracketS s t wd = none) := Lib.hid (by rw [HU.out]; simp only [HX.out, q40, q91, q123, q41, q93, Bool.false_eq_true, if_false, if_true, hc])
                  have HC := Lib.hid hc
                  clear hc
                  go_enter Try.func24, Try.ntmps24
                  go_wp2_with (first | (go_at_call 39; refine (isOf_p _ _).mono ?_; rintro r w3 ⟨g3, hg3, rfl, hB3, hO3⟩; have hS3 := h0.same hO3) | (go_at_call 38; refine (closeBlock_p hS3 hk hB3).mono ?_; rw [HC.out]; rintro r w4 ⟨rfl, ve4, vo4, hS4, hF4⟩))
                  go_ret
                  rw [HR.out]
                  exact ⟨rfl, _, _, (Frm.keep (hA.trans hO3)).trans hF4⟩
                | some s2 =>
                  have HR : Hid (bracketS s t wd = some s2) := Lib.hid (by rw [HU.out]; simp only [HX.out, q40, q91, q123, q41, q93, Bool.false_eq_true, if_false, if_true, hc])
                  have HC := Lib.hid hc
                  clear hc
                  go_enter Try.func24, Try.ntmps24
                  go_wp2_with (first | (go_at_call 39; refine (isOf_p _ _).mono ?_; rintro r w3 ⟨g3, hg3, rfl, hB3, hO3⟩; have hS3 := h0.same hO3) | (go_at_call 38; refine (closeBlock_p hS3 hk hB3).mono ?_; rw [HC.out]; rintro r w4 ⟨rfl, hS4⟩))
                  go_ret
                  rw [HR.out]
                  exact ⟨rfl, hS4.pre (hA.trans hO3)⟩
            · cases hc : closeB s (isK 2) with
              | none =>
                have HR : Hid (bracketS s t wd = none) := Lib.hid (by rw [HU.out]; simp only [HX.out, q40, q91, q123, q41, Bool.false_eq_true, if_false, if_true, hc])
                have HC := Lib.hid hc
                clear hc
                go_enter Try.func24, Try.ntmps24
                go_wp2_with (first | (go_at_call 39; refine (isOf_p _ _).mono ?_; rintro r w3 ⟨g3, hg3, rfl, hB3, hO3⟩; have hS3 := h0.same hO3) | (go_at_call 38; refine (closeBlock_p hS3 hk hB3).mono ?_; rw [HC.out]; rintro r w4 ⟨rfl, ve4, vo4, hS4, hF4⟩))
                go_ret
                rw [HR.out]
                exact ⟨rfl, _, _, (Frm.keep (hA.trans hO3)).trans hF4⟩
              | some s2 =>
                have HR : Hid (bracketS s t wd = some s2) := Lib.hid (by rw [HU.out]; simp only [HX.out, q40, q91, q123, q41, Bool.false_eq_true, if_false, if_true, hc])
                have HC := Lib.hid hc
                clear hc
                go_enter Try.func24, Try.ntmps24
                go_wp2_with (first | (go_at_call 39; refine (isOf_p _ _).mono ?_; rintro r w3 ⟨g3, hg3, rfl, hB3, hO3⟩; have hS3 := h0.same hO3) | (go_at_call 38; refine (closeBlock_p hS3 hk hB3).mono ?_; rw [HC.out]; rintro r w4 ⟨rfl, hS4⟩))
                go_ret
                rw [HR.out]
                exact ⟨rfl, hS4.pre (hA.trans hO3)⟩
          · have HR : Hid (bracketS s t wd = some (pushE s ⟨1, 0, wd, false, 0, 0⟩)) := Lib.hid (by rw [HU.out]; simp only [HX.out, q40, q91, q123, Bool.false_eq_true, if_false, if_true])
            go_enter Try.func24, Try.ntmps24
            go_wp2_with (go_at_call 36; refine (push_p h0 hk ⟨1, 0, wd, false, 0, 0⟩).mono ?_; rintro r w1 ⟨rfl, ve1, hS1, hF1⟩)
            go_ret
            rw [HR.out]
            exact ⟨rfl, hS1.x ((Frm.keep hA).trans hF1)⟩
        · have HR : Hid (bracketS s t wd = some (pushE s (elK 3))) := Lib.hid (by rw [HU.out]; simp only [HX.out, q40, q91, Bool.false_eq_true, if_false, if_true])
          go_enter Try.func24, Try.ntmps24
          go_wp2_with (go_at_call 36; refine (push_p h0 hk (elK 3)).mono ?_; rintro r w1 ⟨rfl, ve1, hS1, hF1⟩)
          go_ret
          rw [HR.out]
          exact ⟨rfl, hS1.x ((Frm.keep hA).trans hF1)⟩
      · have HR : Hid (bracketS s t wd = some (pushE s (elK 2))) := Lib.hid (by rw [HU.out]; simp only [HX.out, q40, if_true])
        go_enter Try.func24, Try.ntmps24
        go_wp2_with (go_at_call 36; refine (push_p h0 hk (elK 2)).mono ?_; rintro r w1 ⟨rfl, ve1, hS1, hF1⟩)
        go_ret
        rw [HR.out]
        exact ⟨rfl, hS1.x ((Frm.keep hA).trans hF1)⟩
  · have h8 : (t.op == 8) = false := by
      have : t.op = 10 := by simpa using h10
      rw [this]; rfl
    have n8 : (t.op != 8) = true := by simp [bne, h8]
    cases q61 : (t.text.toList == [61])
    · have HR : Hid (bracketS s t wd = some s) := Lib.hid (by rw [mark_step s t wd h8, h10, HX.out, q61]; rfl)
      go_enter Try.func24, Try.ntmps24
      go_wp2
      go_ret
      rw [HR.out]
      exact ⟨rfl, h0.x (Frm.keep hA)⟩
    · have HR : Hid (bracketS s t wd = some (markS s true)) := Lib.hid (by rw [mark_step s t wd h8, h10, HX.out, q61]; rfl)
      have tb0 : TB (w.alloc (.cells (tokA t) 33)) w.heap.size t := new_block _ _
      have hlt := lt_of_block tb0
      go_enter Try.func24, Try.ntmps24
      go_wp2_with (go_at_call 41; refine (mark_p h0 hk true).mono ?_; rintro r w1 ⟨rfl, ve1, vo1, hS1, hF1⟩; have e0 := (TB.frm tb0 (h.pr (Nat.le_refl _) hlt) hF1).c0)
      go_ret
      rw [HR.out]
      exact ⟨rfl, hS1.x ((Frm.keep hA).trans hF1)⟩
end
end Go.Proofs.Ythblchafjmgmbaa
