/-
  WALKS. The inserter: keyword.
-/
import Derived.Test.YthblchafjmgmbaaLyO
namespace Go.Proofs.Ythblchafjmgmbaa
open Go.RowKit Go.Maps
section
variable {w : World} {b : Nat} {ve vo : Value} {s : St}
theorem opensBlock_v (t : Tok) (v : Bool) (w : World) (hv : opens t = v) : Calls Try.prog 45 #[tokV t] w fun e w' => e = .returned (.bool v) ∧ Only (fun _ => False) w w' := hv ▸ opensBlock_p t w
/-- The inserter expects a block. -/
theorem IS.expect (h : IS w b ve vo s) (x : Bool) (y : ByteArray) : IS ((w.setCell ⟨b, 3, none⟩ (.bool x)).setCell ⟨b, 4, none⟩ (.string y)) b ve vo { s with exp := x, word := y } ∧ IS ((w.setCell ⟨b, 4, none⟩ (.string y)).setCell ⟨b, 3, none⟩ (.bool x)) b ve vo { s with exp := x, word := y } := by
  have h1 : IS (w.setCell ⟨b, 3, none⟩ (.bool x)) b ve vo { s with exp := x } := h.set rfl h.els h.out
  have h2 : IS (w.setCell ⟨b, 4, none⟩ (.string y)) b ve vo { s with word := y } := h.set rfl h.els h.out
  exact ⟨h1.set (s' := { s with exp := x, word := y }) rfl h1.els h1.out, h2.set (s' := { s with exp := x, word := y }) rfl h2.els h2.out⟩
theorem key_op (s : St) (t : Tok) (h9 : (t.op == 9) = true) (r : Option St) (hr : (if tx t.text bCase then some (pushE s (elK 4)) else if tx t.text bIf then some (pushE s (elK 5)) else if tx t.text bOf then (closeTo s (isK 4)).map (·.2) else if tx t.text bThen then (closeTo s (isK 5)).map (fun r => pushE r.2 (elK 6)) else if tx t.text bElse then (closeTo s (isK 6)).map (·.2) else if tx t.text bIn then (closeTo s letE).map (·.2) else some s) = r) : keyS s t = r.map fun s => if opens t then { s with exp := true, word := t.text } else s := by
  unfold keyS
  rw [h9]
  simp only [if_true]
  rw [← hr]
set_option maxRecDepth 100000 in
set_option maxHeartbeats 16000000 in
theorem keyword_p (h : IS w b ve vo s) (hk : Ok 1 s) (t : Tok) : Calls Try.prog 25 #[.pointer (some ⟨b, 0, none⟩), tokV t] w (StR w b ve vo (keyS s t)) := by
  have hb := h.lt
  have hA : Only (fun _ => False) w (w.alloc (.cells (tokA t) 33)) := (Only.refl _ _).alloc _
  have h0 := h.same hA
  have t0 : TB (w.alloc (.cells (tokA t) 33)) w.heap.size t := new_block _ _
  have hPr : Pr (w.alloc (.cells (tokA t) 33)) b ve vo w.heap.size := h.pr (Nat.le_refl _) (lt_of_block t0)
  have HT := Lib.hid (Lib.toList_data t.text)
  have hx : ∀ l, tx t.text l = (t.text.toList == l) := fun l => by unfold tx; rw [HT.out]
  have HX := Lib.hid hx
  clear hx
  cases h9 : (t.op == 9)
  · have n9 : (t.op != 9) = true := by simp [bne, h9]
    have HR : Hid (keyS s t = some s) := Lib.hid (by unfold keyS; rw [h9]; rfl)
    go_enter Try.func25, Try.ntmps25
    go_wp2
    go_ret
    rw [HR.out]
    exact ⟨rfl, h0.x (Frm.keep hA)⟩
  · have n9 : (t.op != 9) = false := by simp [bne, h9]
    have HU := Lib.hid (key_op s t h9)
    have HOP : Hid (opens t = ((t.text.toList == [119, 104, 101, 114, 101]) || (t.text.toList == [108, 101, 116]) || (t.text.toList == [100, 111]) || (t.text.toList == [111, 102]))) := Lib.hid (by unfold opens; rw [h9, HX.out, HX.out, HX.out, HX.out]; rfl)
    cases qcase : (t.text.toList == [99, 97, 115, 101])
    · cases qif : (t.text.toList == [105, 102])
      · cases qof : (t.text.toList == [111, 102])
        · cases qthen : (t.text.toList == [116, 104, 101, 110])
          · cases qelse : (t.text.toList == [101, 108, 115, 101])
            · cases qin : (t.text.toList == [105, 110])
              · cases ho : opens t
                · have HO := Lib.hid ho
                  clear ho
                  have HR : Hid (keyS s t = some (s)) := Lib.hid (by
                    rw [HU.out (some s) (by simp only [bCase, bIf, bOf, bThen, bElse, bIn, HX.out, qcase, qif, qof, qthen, qelse, qin, Bool.false_eq_true, if_false]), HO.out]; rfl)
                  have hSk := h0
                  have hTk := t0
                  have hFk : Frm w b ve vo _ ve vo := Frm.keep hA
                  go_enter Try.func25, Try.ntmps25
                  go_wp2_with (go_at_call 45; ((with_reducible refine (opensBlock_v t _ _ HO.out).mono ?_); rintro r w7 ⟨rfl, hO7⟩; have hS7 := hSk.same hO7; have hT7 := hTk.same hO7; have j3 := hS7.c3; have j4 := hS7.c4; have y3 := hS7.fz 3; have y4 := hS7.fz 4; have f2 := hT7.c2))
                  go_ret
                  rw [HR.out]
                  exact ⟨rfl, hS7.x (hFk.trans (Frm.keep hO7))⟩
                · have HO := Lib.hid ho
                  clear ho
                  have HR : Hid (keyS s t = some ({ s with exp := true, word := t.text })) := Lib.hid (by
                    rw [HU.out (some s) (by simp only [bCase, bIf, bOf, bThen, bElse, bIn, HX.out, qcase, qif, qof, qthen, qelse, qin, Bool.false_eq_true, if_false]), HO.out]; rfl)
                  have hSk := h0
                  have hTk := t0
                  have hFk : Frm w b ve vo _ ve vo := Frm.keep hA
                  go_enter Try.func25, Try.ntmps25
                  go_wp2_with (go_at_call 45; ((with_reducible refine (opensBlock_v t _ _ HO.out).mono ?_); rintro r w7 ⟨rfl, hO7⟩; have hS7 := hSk.same hO7; have hT7 := hTk.same hO7; have j3 := hS7.c3; have j4 := hS7.c4; have y3 := hS7.fz 3; have y4 := hS7.fz 4; have f2 := hT7.c2))
                  have HE := Lib.hid (hS7.expect true t.text)
                  go_region
                  all_goals
                    go_wp2
                    go_ret
                    rw [HR.out]
                    first
                      | exact ⟨rfl, IS.x (HE.out.1.same (Only.drew (Only.refl _ _))) ((hFk.trans (Frm.keep hO7)).trans ⟨Only.drew (Only.setCell (Only.setCell (Only.refl _ _) (.inl rfl) _) (.inl rfl) _), fun _ hg => .inl hg, fun _ hg => .inl hg⟩)⟩
                      | exact ⟨rfl, IS.x (HE.out.2.same (Only.drew (Only.refl _ _))) ((hFk.trans (Frm.keep hO7)).trans ⟨Only.drew (Only.setCell (Only.setCell (Only.refl _ _) (.inl rfl) _) (.inl rfl) _), fun _ hg => .inl hg, fun _ hg => .inl hg⟩)⟩
              · have HO : Hid (opens t = false) := Lib.hid (by rw [HOP.out]; rw [eq_of_beq qin]; rfl)
                cases hc : closeTo s letE with
                | none =>
                  have HR : Hid (keyS s t = none) := Lib.hid (by
                    rw [HU.out (none) (by simp only [bCase, bIf, bOf, bThen, bElse, bIn, HX.out, qcase, qif, qof, qthen, qelse, qin, Bool.false_eq_true, if_false, if_true, hc, Option.map_none]), HO.out]; rfl)
                  have HC := Lib.hid hc
                  clear hc
                  go_enter Try.func25, Try.ntmps25
                  go_wp2_with (first | (go_at_call 43; refine (closeTo_let h0 hk).mono ?_; rw [HC.out]; rintro r w4 ⟨rfl, ve4, vo4, hSk, hF4⟩; have hTk := TB.frm t0 hPr hF4; have hPk := (hPr.frm hF4).1; have hFk := (Frm.keep hA).trans hF4; obtain ⟨i0, i1, i2, i3, i4, i5, i6⟩ := hTk.all) | (go_at_call 45; ((with_reducible refine (opensBlock_v t _ _ HO.out).mono ?_); rintro r w7 ⟨rfl, hO7⟩; have hS7 := hSk.same hO7; have hT7 := hTk.same hO7; have j3 := hS7.c3; have j4 := hS7.c4; have y3 := hS7.fz 3; have y4 := hS7.fz 4; have f2 := hT7.c2)))
                  go_ret
                  rw [HR.out]
                  exact ⟨rfl, _, _, hFk.trans (Frm.keep hO7)⟩
                | some x =>
                  obtain ⟨e2, s2⟩ := x
                  have HR : Hid (keyS s t = some (s2)) := Lib.hid (by
                    rw [HU.out (some (s2)) (by simp only [bCase, bIf, bOf, bThen, bElse, bIn, HX.out, qcase, qif, qof, qthen, qelse, qin, Bool.false_eq_true, if_false, if_true, hc, Option.map_some]), HO.out]; rfl)
                  have HC := Lib.hid hc
                  clear hc
                  go_enter Try.func25, Try.ntmps25
                  go_wp2_with (first | (go_at_call 43; refine (closeTo_let h0 hk).mono ?_; rw [HC.out]; rintro r w4 ⟨rfl, ve4, vo4, hSk, hF4⟩; have hTk := TB.frm t0 hPr hF4; have hPk := (hPr.frm hF4).1; have hFk := (Frm.keep hA).trans hF4; obtain ⟨i0, i1, i2, i3, i4, i5, i6⟩ := hTk.all) | (go_at_call 45; ((with_reducible refine (opensBlock_v t _ _ HO.out).mono ?_); rintro r w7 ⟨rfl, hO7⟩; have hS7 := hSk.same hO7; have hT7 := hTk.same hO7; have j3 := hS7.c3; have j4 := hS7.c4; have y3 := hS7.fz 3; have y4 := hS7.fz 4; have f2 := hT7.c2)))
                  go_ret
                  rw [HR.out]
                  exact ⟨rfl, hS7.x (hFk.trans (Frm.keep hO7))⟩
            · have HO : Hid (opens t = false) := Lib.hid (by rw [HOP.out]; rw [eq_of_beq qelse]; rfl)
              cases hc : closeTo s (isK 6) with
              | none =>
                have HR : Hid (keyS s t = none) := Lib.hid (by
                  rw [HU.out (none) (by simp only [bCase, bIf, bOf, bThen, bElse, bIn, HX.out, qcase, qif, qof, qthen, qelse, Bool.false_eq_true, if_false, if_true, hc, Option.map_none]), HO.out]; rfl)
                have HC := Lib.hid hc
                clear hc
                go_enter Try.func25, Try.ntmps25
                go_wp2_with (first | (go_at_call 39; refine (isOf_p _ _).mono ?_; rintro r w3 ⟨g3, hg3, rfl, hB3, hO3⟩; have hS3 := h0.same hO3) | (go_at_call 43; refine (closeTo_isOf hS3 hk hB3).mono ?_; rw [HC.out]; rintro r w4 ⟨rfl, ve4, vo4, hSk, hF4⟩; have hTk := TB.frm t0 hPr ((Frm.keep hO3).trans hF4); have hPk := (hPr.frm ((Frm.keep hO3).trans hF4)).1; have hFk := (Frm.keep hA).trans ((Frm.keep hO3).trans hF4); obtain ⟨i0, i1, i2, i3, i4, i5, i6⟩ := hTk.all) | (go_at_call 45; ((with_reducible refine (opensBlock_v t _ _ HO.out).mono ?_); rintro r w7 ⟨rfl, hO7⟩; have hS7 := hSk.same hO7; have hT7 := hTk.same hO7; have j3 := hS7.c3; have j4 := hS7.c4; have y3 := hS7.fz 3; have y4 := hS7.fz 4; have f2 := hT7.c2)))
                go_ret
                rw [HR.out]
                exact ⟨rfl, _, _, hFk.trans (Frm.keep hO7)⟩
              | some x =>
                obtain ⟨e2, s2⟩ := x
                have HR : Hid (keyS s t = some (s2)) := Lib.hid (by
                  rw [HU.out (some (s2)) (by simp only [bCase, bIf, bOf, bThen, bElse, bIn, HX.out, qcase, qif, qof, qthen, qelse, Bool.false_eq_true, if_false, if_true, hc, Option.map_some]), HO.out]; rfl)
                have HC := Lib.hid hc
                clear hc
                go_enter Try.func25, Try.ntmps25
                go_wp2_with (first | (go_at_call 39; refine (isOf_p _ _).mono ?_; rintro r w3 ⟨g3, hg3, rfl, hB3, hO3⟩; have hS3 := h0.same hO3) | (go_at_call 43; refine (closeTo_isOf hS3 hk hB3).mono ?_; rw [HC.out]; rintro r w4 ⟨rfl, ve4, vo4, hSk, hF4⟩; have hTk := TB.frm t0 hPr ((Frm.keep hO3).trans hF4); have hPk := (hPr.frm ((Frm.keep hO3).trans hF4)).1; have hFk := (Frm.keep hA).trans ((Frm.keep hO3).trans hF4); obtain ⟨i0, i1, i2, i3, i4, i5, i6⟩ := hTk.all) | (go_at_call 45; ((with_reducible refine (opensBlock_v t _ _ HO.out).mono ?_); rintro r w7 ⟨rfl, hO7⟩; have hS7 := hSk.same hO7; have hT7 := hTk.same hO7; have j3 := hS7.c3; have j4 := hS7.c4; have y3 := hS7.fz 3; have y4 := hS7.fz 4; have f2 := hT7.c2)))
                go_ret
                rw [HR.out]
                exact ⟨rfl, hS7.x (hFk.trans (Frm.keep hO7))⟩
          · have HO : Hid (opens t = false) := Lib.hid (by rw [HOP.out]; rw [eq_of_beq qthen]; rfl)
            cases hc : closeTo s (isK 5) with
            | none =>
              have HR : Hid (keyS s t = none) := Lib.hid (by
                rw [HU.out (none) (by simp only [bCase, bIf, bOf, bThen, bElse, bIn, HX.out, qcase, qif, qof, qthen, Bool.false_eq_true, if_false, if_true, hc, Option.map_none]), HO.out]; rfl)
              have HC := Lib.hid hc
              clear hc
              go_enter Try.func25, Try.ntmps25
              go_wp2_with (first | (go_at_call 39; refine (isOf_p _ _).mono ?_; rintro r w3 ⟨g3, hg3, rfl, hB3, hO3⟩; have hS3 := h0.same hO3) | (go_at_call 43; refine (closeTo_isOf hS3 hk hB3).mono ?_; rw [HC.out]; rintro r w4 ⟨rfl, ve4, vo4, hSq, hF4⟩; have hTq := TB.frm t0 hPr ((Frm.keep hO3).trans hF4); have hPq := (hPr.frm ((Frm.keep hO3).trans hF4)).1; have hFq := (Frm.keep hA).trans ((Frm.keep hO3).trans hF4); obtain ⟨i0, i1, i2, i3, i4, i5, i6⟩ := hTq.all) | (go_at_call 36; refine (push_p hSq hk (elK 6)).mono ?_; rintro r w5 ⟨rfl, ve5, hSk, hF5⟩; have hTk := TB.frm hTq hPq hF5; have hFk := hFq.trans hF5; obtain ⟨k0, k1, k2, k3, k4, k5, k6⟩ := hTk.all) | (go_at_call 45; ((with_reducible refine (opensBlock_v t _ _ HO.out).mono ?_); rintro r w7 ⟨rfl, hO7⟩; have hS7 := hSk.same hO7; have hT7 := hTk.same hO7; have j3 := hS7.c3; have j4 := hS7.c4; have y3 := hS7.fz 3; have y4 := hS7.fz 4; have f2 := hT7.c2)))
              go_ret
              rw [HR.out]
              exact ⟨rfl, _, _, hFk.trans (Frm.keep hO7)⟩
            | some x =>
              obtain ⟨e2, s2⟩ := x
              have HR : Hid (keyS s t = some (pushE s2 (elK 6))) := Lib.hid (by
                rw [HU.out (some (pushE s2 (elK 6))) (by simp only [bCase, bIf, bOf, bThen, bElse, bIn, HX.out, qcase, qif, qof, qthen, Bool.false_eq_true, if_false, if_true, hc, Option.map_some]), HO.out]; rfl)
              have hk2 : Ok 1 s2 := (hk.closeTo hc).less (by omega)
              have HC := Lib.hid hc
              clear hc
              go_enter Try.func25, Try.ntmps25
              go_wp2_with (first | (go_at_call 39; refine (isOf_p _ _).mono ?_; rintro r w3 ⟨g3, hg3, rfl, hB3, hO3⟩; have hS3 := h0.same hO3) | (go_at_call 43; refine (closeTo_isOf hS3 hk hB3).mono ?_; rw [HC.out]; rintro r w4 ⟨rfl, ve4, vo4, hSq, hF4⟩; have hTq := TB.frm t0 hPr ((Frm.keep hO3).trans hF4); have hPq := (hPr.frm ((Frm.keep hO3).trans hF4)).1; have hFq := (Frm.keep hA).trans ((Frm.keep hO3).trans hF4); obtain ⟨i0, i1, i2, i3, i4, i5, i6⟩ := hTq.all) | (go_at_call 36; refine (push_p hSq hk2 (elK 6)).mono ?_; rintro r w5 ⟨rfl, ve5, hSk, hF5⟩; have hTk := TB.frm hTq hPq hF5; have hFk := hFq.trans hF5; obtain ⟨k0, k1, k2, k3, k4, k5, k6⟩ := hTk.all) | (go_at_call 45; ((with_reducible refine (opensBlock_v t _ _ HO.out).mono ?_); rintro r w7 ⟨rfl, hO7⟩; have hS7 := hSk.same hO7; have hT7 := hTk.same hO7; have j3 := hS7.c3; have j4 := hS7.c4; have y3 := hS7.fz 3; have y4 := hS7.fz 4; have f2 := hT7.c2)))
              go_ret
              rw [HR.out]
              exact ⟨rfl, hS7.x (hFk.trans (Frm.keep hO7))⟩
        · have HO : Hid (opens t = true) := Lib.hid (by rw [HOP.out]; rw [eq_of_beq qof]; rfl)
          cases hc : closeTo s (isK 4) with
          | none =>
            have HR : Hid (keyS s t = none) := Lib.hid (by
              rw [HU.out (none) (by simp only [bCase, bIf, bOf, bThen, bElse, bIn, HX.out, qcase, qif, qof, Bool.false_eq_true, if_false, if_true, hc, Option.map_none]), HO.out]; rfl)
            have HC := Lib.hid hc
            clear hc
            go_enter Try.func25, Try.ntmps25
            go_wp2_with (first | (go_at_call 39; refine (isOf_p _ _).mono ?_; rintro r w3 ⟨g3, hg3, rfl, hB3, hO3⟩; have hS3 := h0.same hO3) | (go_at_call 43; refine (closeTo_isOf hS3 hk hB3).mono ?_; rw [HC.out]; rintro r w4 ⟨rfl, ve4, vo4, hSk, hF4⟩; have hTk := TB.frm t0 hPr ((Frm.keep hO3).trans hF4); have hPk := (hPr.frm ((Frm.keep hO3).trans hF4)).1; have hFk := (Frm.keep hA).trans ((Frm.keep hO3).trans hF4); obtain ⟨i0, i1, i2, i3, i4, i5, i6⟩ := hTk.all) | (go_at_call 45; ((with_reducible refine (opensBlock_v t _ _ HO.out).mono ?_); rintro r w7 ⟨rfl, hO7⟩; have hS7 := hSk.same hO7; have hT7 := hTk.same hO7; have j3 := hS7.c3; have j4 := hS7.c4; have y3 := hS7.fz 3; have y4 := hS7.fz 4; have f2 := hT7.c2)))
            go_region
            all_goals
              go_wp2
              go_ret
              rw [HR.out]
              exact ⟨rfl, _, _, (hFk.trans (Frm.keep (ve := _) (vo := _) hO7)).trans ⟨Only.drew (Only.setCell (Only.setCell (Only.refl _ _) (.inl rfl) _) (.inl rfl) _), fun _ hg => .inl hg, fun _ hg => .inl hg⟩⟩
          | some x =>
            obtain ⟨e2, s2⟩ := x
            have HR : Hid (keyS s t = some ({ s2 with exp := true, word := t.text })) := Lib.hid (by
              rw [HU.out (some (s2)) (by simp only [bCase, bIf, bOf, bThen, bElse, bIn, HX.out, qcase, qif, qof, Bool.false_eq_true, if_false, if_true, hc, Option.map_some]), HO.out]; rfl)
            have HC := Lib.hid hc
            clear hc
            go_enter Try.func25, Try.ntmps25
            go_wp2_with (first | (go_at_call 39; refine (isOf_p _ _).mono ?_; rintro r w3 ⟨g3, hg3, rfl, hB3, hO3⟩; have hS3 := h0.same hO3) | (go_at_call 43; refine (closeTo_isOf hS3 hk hB3).mono ?_; rw [HC.out]; rintro r w4 ⟨rfl, ve4, vo4, hSk, hF4⟩; have hTk := TB.frm t0 hPr ((Frm.keep hO3).trans hF4); have hPk := (hPr.frm ((Frm.keep hO3).trans hF4)).1; have hFk := (Frm.keep hA).trans ((Frm.keep hO3).trans hF4); obtain ⟨i0, i1, i2, i3, i4, i5, i6⟩ := hTk.all) | (go_at_call 45; ((with_reducible refine (opensBlock_v t _ _ HO.out).mono ?_); rintro r w7 ⟨rfl, hO7⟩; have hS7 := hSk.same hO7; have hT7 := hTk.same hO7; have j3 := hS7.c3; have j4 := hS7.c4; have y3 := hS7.fz 3; have y4 := hS7.fz 4; have f2 := hT7.c2)))
            have HE := Lib.hid (hS7.expect true t.text)
            go_region
            all_goals
              go_wp2
              go_ret
              rw [HR.out]
              first
                | exact ⟨rfl, IS.x (HE.out.1.same (Only.drew (Only.refl _ _))) ((hFk.trans (Frm.keep hO7)).trans ⟨Only.drew (Only.setCell (Only.setCell (Only.refl _ _) (.inl rfl) _) (.inl rfl) _), fun _ hg => .inl hg, fun _ hg => .inl hg⟩)⟩
                | exact ⟨rfl, IS.x (HE.out.2.same (Only.drew (Only.refl _ _))) ((hFk.trans (Frm.keep hO7)).trans ⟨Only.drew (Only.setCell (Only.setCell (Only.refl _ _) (.inl rfl) _) (.inl rfl) _), fun _ hg => .inl hg, fun _ hg => .inl hg⟩)⟩
      · have HO : Hid (opens t = false) := Lib.hid (by rw [HOP.out]; rw [eq_of_beq qif]; rfl)
        have HR : Hid (keyS s t = some (pushE s (elK 5))) := Lib.hid (by
          rw [HU.out (some (pushE s (elK 5))) (by simp only [bCase, bIf, bOf, bThen, bElse, bIn, HX.out, qcase, qif, Bool.false_eq_true, if_false, if_true]), HO.out]; rfl)
        go_enter Try.func25, Try.ntmps25
        go_wp2_with (first | (go_at_call 36; refine (push_p h0 hk (elK 5)).mono ?_; rintro r w1 ⟨rfl, ve1, hSk, hF1⟩; have hTk := TB.frm t0 hPr hF1; have hFk := (Frm.keep hA).trans hF1; obtain ⟨i0, i1, i2, i3, i4, i5, i6⟩ := hTk.all) | (go_at_call 45; ((with_reducible refine (opensBlock_v t _ _ HO.out).mono ?_); rintro r w7 ⟨rfl, hO7⟩; have hS7 := hSk.same hO7; have hT7 := hTk.same hO7; have j3 := hS7.c3; have j4 := hS7.c4; have y3 := hS7.fz 3; have y4 := hS7.fz 4; have f2 := hT7.c2)))
        go_ret
        rw [HR.out]
        exact ⟨rfl, hS7.x (hFk.trans (Frm.keep hO7))⟩
    · have HO : Hid (opens t = false) := Lib.hid (by rw [HOP.out]; rw [eq_of_beq qcase]; rfl)
      have HR : Hid (keyS s t = some (pushE s (elK 4))) := Lib.hid (by
        rw [HU.out (some (pushE s (elK 4))) (by simp only [bCase, bIf, bOf, bThen, bElse, bIn, HX.out, qcase, if_true]), HO.out]; rfl)
      go_enter Try.func25, Try.ntmps25
      go_wp2_with (first | (go_at_call 36; refine (push_p h0 hk (elK 4)).mono ?_; rintro r w1 ⟨rfl, ve1, hSk, hF1⟩; have hTk := TB.frm t0 hPr hF1; have hFk := (Frm.keep hA).trans hF1; obtain ⟨i0, i1, i2, i3, i4, i5, i6⟩ := hTk.all) | (go_at_call 45; ((with_reducible refine (opensBlock_v t _ _ HO.out).mono ?_); rintro r w7 ⟨rfl, hO7⟩; have hS7 := hSk.same hO7; have hT7 := hTk.same hO7; have j3 := hS7.c3; have j4 := hS7.c4; have y3 := hS7.fz 3; have y4 := hS7.fz 4; have f2 := hT7.c2)))
      go_ret
      rw [HR.out]
      exact ⟨rfl, hS7.x (hFk.trans (Frm.keep hO7))⟩
end
end Go.Proofs.Ythblchafjmgmbaa
