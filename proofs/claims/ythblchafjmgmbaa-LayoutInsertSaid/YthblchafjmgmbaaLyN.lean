/-
  WALKS. The inserter: begin.
-/
import Derived.Test.YthblchafjmgmbaaLyL
namespace Go.Proofs.Ythblchafjmgmbaa
open Go.RowKit Go.Maps
section
variable {w : World} {b : Nat} {ve vo : Value} {s : St}
/-- The column of the block around. -/
theorem begC_cases {l : St} (h : topB l.els < l.els.length) : (implAt l.els (topB l.els) = none ∧ begC l = 0) ∨ ∃ (i : Nat) (e : El), topB l.els = (i : Int) ∧ l.els[i]? = some e ∧ (e.kind == 0) = true ∧ begC l = e.col := by
  unfold begC
  rcases impl_cases h with ⟨hn, -⟩ | ⟨i, e, ha, hi, hkk, hs⟩
  · exact .inl ⟨hn, by rw [hn]⟩
  · exact .inr ⟨i, e, ha, hi, hkk, by rw [hs]⟩
set_option maxRecDepth 100000 in
set_option maxHeartbeats 4000000 in
theorem begin_p (h : IS w b ve vo s) (hk : Ok 4 s) (t : Tok) : Calls Try.prog 21 #[.pointer (some ⟨b, 0, none⟩), tokV t] w fun r w' => r = .returned (.bool (beginS s t).1) ∧ ISx w b ve vo (beginS s t).2 w' := by
  have hb := h.lt
  have hA : Only (fun _ => False) w (w.alloc (.cells (tokA t) 33)) := (Only.refl _ _).alloc _
  have h0 := h.same hA
  have t0 : TB (w.alloc (.cells (tokA t) 33)) w.heap.size t := new_block _ _
  have hk1 : Ok 1 s := hk.less (by omega)
  have hk2 : Ok 1 (insS s 123) := Ok.ins (k := 1) (hk.less (by omega))
  have hk3 : Ok 1 (insS (insS s 123) 125) := Ok.ins (k := 1) (Ok.ins (k := 2) (hk.less (by omega)))
  have hok0 : Ok 0 s := hk.less (by omega)
  have hlt := hok0.bd.last.1
  have HKE : Hid (¬ KE b vo w.heap.size) := Lib.hid (fun hc => hc.elim (fun e => by omega) (fun e => by have := (World.ownsRow.lt h.out _ e).2; omega))
  have HT := Lib.hid (Lib.toList_data s.word)
  cases h1 : spT t [123]
  · have H1 := Lib.hid h1
    cases hw : s.word.data.toList.isEmpty
    · have hw1 : (s.word.toList == []) = false := by rw [HT.out]; cases hh : s.word.data.toList with
        | nil => rw [hh] at hw; cases hw
        | cons _ _ => rfl
      have hw2 : s.word.toList.isEmpty = false := by rw [HT.out]; exact hw
      have HNM : Hid ((s.word.data.toList.isEmpty && wdT t bModule) = false) := Lib.hid (by rw [hw]; rfl)
      clear h1 hw
      go_enter Try.func21, Try.ntmps21
      go_wp2_with (go_at_call 19; ((with_reducible refine (isSpecial_v t [123] _ _ H1.out).mono ?_); rintro r w1 ⟨rfl, hO1⟩; have hS1 := h0.same hO1; have hT1 := t0.same hO1; have c4 := hS1.c4; obtain ⟨e0, e1, e2, e3, e4, e5, e6⟩ := hT1.all))
      have hSx := hS1
      have hTx := hT1
      have hOx := hA.trans hO1
      clear e0 e1 e2 e3 e4 e5 e6 c4
      rcases begC_cases hlt with ⟨hn, hc⟩ | ⟨i, e, ha, hi, hkk, hc⟩
      · have HN := Lib.hid hn
        have HC := Lib.hid hc
        clear hn hc
        by_cases hcol : 0 < t.col
        · have HE : Hid (beginS s t = (true, pushE (insS s 123) ⟨0, t.col, s.word, false, 0, 0⟩)) := Lib.hid (by unfold beginS; rw [H1.out, HNM.out, HC.out, if_neg Bool.false_ne_true, if_neg Bool.false_ne_true]; simp only; rw [if_pos hcol])
          have t1 : decide (0 < t.col) = true := decide_eq_true hcol
          clear hcol
          go_wp2_with (first | (go_at_call 35; refine (implicitBlock_no hSx hok0 HN.out).mono ?_; rintro r w3 ⟨rfl, hO3⟩; have hS3 := hSx.same hO3; have hT3 := hTx.same hO3) | (go_at_call 26; ((with_reducible refine (insert_p hS3 hk1 123).mono ?_); rintro r w4 ⟨rfl, vo4, hS4, hO4, hF4⟩; have hT4 := hT3.only hO4 HKE.out; clear hO4; obtain ⟨i0, i1, i2, i3, i4, i5, i6⟩ := hT4.all; have c4 := hS4.c4)))
          refine still_tail_w 10 (by kernel_rfl) (by kernel_rfl) (fun wd => IS wd b _ vo4 (insS s 123) ∧ TB wd w.heap.size t ∧ Frm w b _ vo wd _ vo4) ⟨hS4.same (Only.drew (Only.refl _ _)), hT4.same (Only.drew (Only.refl _ _)), ((Frm.keep (hOx.trans hO3)).trans hF4).trans (Frm.keep (Only.drew (Only.refl _ _)))⟩ ?_
          clear i0 i1 i2 i3 i4 i5 i6 c4
          rintro wd ⟨hSd, hTd, hOd⟩
          have k4 := hSd.c4
          have k6 := hTd.c6
          simp only [List.take_succ_cons, List.take_zero, List.drop_succ_cons, List.drop_zero]
          repeat still_step
          refine wpStill_nil ?_
          go_wp2_with (go_at_call 36; refine (push_p hSd hk2 ⟨0, t.col, s.word, false, 0, 0⟩).mono ?_; rintro r w5 ⟨rfl, ve5, hS5, hF5⟩)
          go_ret
          rw [HE.out]
          exact ⟨rfl, hS5.x (hOd.trans hF5)⟩
        · have HE : Hid (beginS s t = (false, closedS (insS (insS s 123) 125) s.word)) := Lib.hid (by unfold beginS; rw [H1.out, HNM.out, HC.out, if_neg Bool.false_ne_true, if_neg Bool.false_ne_true]; simp only; rw [if_neg hcol])
          have t1 : decide (0 < t.col) = false := decide_eq_false hcol
          clear hcol
          go_wp2_with (first | (go_at_call 35; refine (implicitBlock_no hSx hok0 HN.out).mono ?_; rintro r w3 ⟨rfl, hO3⟩; have hS3 := hSx.same hO3; have hT3 := hTx.same hO3) | (go_at_call 26; ((with_reducible refine (insert_p hS3 hk1 123).mono ?_); rintro r w4 ⟨rfl, vo4, hS4, hO4, hF4⟩; have hT4 := hT3.only hO4 HKE.out; clear hO4; obtain ⟨i0, i1, i2, i3, i4, i5, i6⟩ := hT4.all; have c4 := hS4.c4)) | (go_at_call 26; ((with_reducible refine (insert_p hS4 hk2 125).mono ?_); rintro r w5 ⟨rfl, vo5, hS5, hO5, hF5⟩; clear hO5; have j4 := hS5.c4)) | (go_at_call 37; refine (closed_p hS5 s.word (fun _ => hk3)).mono ?_; rintro r w6 ⟨rfl, hS6⟩))
          go_ret
          rw [HE.out]
          exact ⟨rfl, hS6.frm (((Frm.keep (hOx.trans hO3)).trans hF4).trans hF5)⟩
      · obtain ⟨g, ca, hve, -, -, -, hec, -⟩ := hSx.elem hi
        subst hve
        have HC := Lib.hid hc
        have HA := Lib.hid ha
        have HI := Lib.hid hi
        clear hc ha hec
        have HX : Hid (∀ w', Only (fun _ => False) w1 w' → w'.cell? ⟨g, i * 6 + 1, none⟩ = some (.int .i64 e.col)) := Lib.hid (fun w' ho => by
          obtain ⟨g', ca', hve, -, -, -, hc', -⟩ := (hSx.same ho).elem HI.out
          cases hve
          exact hc'.c1)
        clear hi
        by_cases hcol : e.col < t.col
        · have HE : Hid (beginS s t = (true, pushE (insS s 123) ⟨0, t.col, s.word, false, 0, 0⟩)) := Lib.hid (by unfold beginS; rw [H1.out, HNM.out, HC.out, if_neg Bool.false_ne_true, if_neg Bool.false_ne_true]; simp only; rw [if_pos hcol])
          have t1 : decide (e.col < t.col) = true := decide_eq_true hcol
          clear hcol
          go_wp2_with (first | (go_at_call 35; refine (implicitBlock_yes hSx hok0 HA.out HI.out hkk).mono ?_; rintro r w3 ⟨rfl, hO3⟩; have hS3 := hSx.same hO3; have hT3 := hTx.same hO3; have b1 := HX.out _ hO3) | (go_at_call 26; ((with_reducible refine (insert_p hS3 hk1 123).mono ?_); rintro r w4 ⟨rfl, vo4, hS4, hO4, hF4⟩; have hT4 := hT3.only hO4 HKE.out; clear hO4; obtain ⟨i0, i1, i2, i3, i4, i5, i6⟩ := hT4.all; have c4 := hS4.c4)))
          refine still_tail_w 10 (by kernel_rfl) (by kernel_rfl) (fun wd => IS wd b _ vo4 (insS s 123) ∧ TB wd w.heap.size t ∧ Frm w b _ vo wd _ vo4) ⟨hS4.same (Only.drew (Only.refl _ _)), hT4.same (Only.drew (Only.refl _ _)), ((Frm.keep (hOx.trans hO3)).trans hF4).trans (Frm.keep (Only.drew (Only.refl _ _)))⟩ ?_
          clear i0 i1 i2 i3 i4 i5 i6 c4
          rintro wd ⟨hSd, hTd, hOd⟩
          have k4 := hSd.c4
          have k6 := hTd.c6
          simp only [List.take_succ_cons, List.take_zero, List.drop_succ_cons, List.drop_zero]
          repeat still_step
          refine wpStill_nil ?_
          go_wp2_with (go_at_call 36; refine (push_p hSd hk2 ⟨0, t.col, s.word, false, 0, 0⟩).mono ?_; rintro r w5 ⟨rfl, ve5, hS5, hF5⟩)
          go_ret
          rw [HE.out]
          exact ⟨rfl, hS5.x (hOd.trans hF5)⟩
        · have HE : Hid (beginS s t = (false, closedS (insS (insS s 123) 125) s.word)) := Lib.hid (by unfold beginS; rw [H1.out, HNM.out, HC.out, if_neg Bool.false_ne_true, if_neg Bool.false_ne_true]; simp only; rw [if_neg hcol])
          have t1 : decide (e.col < t.col) = false := decide_eq_false hcol
          clear hcol
          go_wp2_with (first | (go_at_call 35; refine (implicitBlock_yes hSx hok0 HA.out HI.out hkk).mono ?_; rintro r w3 ⟨rfl, hO3⟩; have hS3 := hSx.same hO3; have hT3 := hTx.same hO3; have b1 := HX.out _ hO3) | (go_at_call 26; ((with_reducible refine (insert_p hS3 hk1 123).mono ?_); rintro r w4 ⟨rfl, vo4, hS4, hO4, hF4⟩; have hT4 := hT3.only hO4 HKE.out; clear hO4; obtain ⟨i0, i1, i2, i3, i4, i5, i6⟩ := hT4.all; have c4 := hS4.c4)) | (go_at_call 26; ((with_reducible refine (insert_p hS4 hk2 125).mono ?_); rintro r w5 ⟨rfl, vo5, hS5, hO5, hF5⟩; clear hO5; have j4 := hS5.c4)) | (go_at_call 37; refine (closed_p hS5 s.word (fun _ => hk3)).mono ?_; rintro r w6 ⟨rfl, hS6⟩))
          go_ret
          rw [HE.out]
          exact ⟨rfl, hS6.frm (((Frm.keep (hOx.trans hO3)).trans hF4).trans hF5)⟩
    · have hw1 : (s.word.toList == []) = true := by rw [HT.out]; cases hh : s.word.data.toList with
        | nil => rfl
        | cons _ _ => rw [hh] at hw; cases hw
      have hw2 : s.word.toList.isEmpty = true := by rw [HT.out]; exact hw
      cases h2 : wdT t [109, 111, 100, 117, 108, 101]
      · have H2 := Lib.hid h2
        have HNM : Hid ((s.word.data.toList.isEmpty && wdT t bModule) = false) := Lib.hid (by rw [hw]; exact h2)
        clear h1 hw h2
        go_enter Try.func21, Try.ntmps21
        go_wp2_with (first | (go_at_call 19; ((with_reducible refine (isSpecial_v t [123] _ _ H1.out).mono ?_); rintro r w1 ⟨rfl, hO1⟩; have hS1 := h0.same hO1; have hT1 := t0.same hO1; have c4 := hS1.c4; obtain ⟨e0, e1, e2, e3, e4, e5, e6⟩ := hT1.all)) | (go_at_call 34; ((with_reducible refine (isWord_v t [109, 111, 100, 117, 108, 101] _ _ H2.out).mono ?_); rintro r w2 ⟨rfl, hO2⟩; have hS2 := hS1.same hO2; have hT2 := hT1.same hO2)))
        have hSx := hS2
        have hTx := hT2
        have hOx := (hA.trans hO1).trans hO2
        clear e0 e1 e2 e3 e4 e5 e6 c4
        rcases begC_cases hlt with ⟨hn, hc⟩ | ⟨i, e, ha, hi, hkk, hc⟩
        · have HN := Lib.hid hn
          have HC := Lib.hid hc
          clear hn hc
          by_cases hcol : 0 < t.col
          · have HE : Hid (beginS s t = (true, pushE (insS s 123) ⟨0, t.col, s.word, false, 0, 0⟩)) := Lib.hid (by unfold beginS; rw [H1.out, HNM.out, HC.out, if_neg Bool.false_ne_true, if_neg Bool.false_ne_true]; simp only; rw [if_pos hcol])
            have t1 : decide (0 < t.col) = true := decide_eq_true hcol
            clear hcol
            go_wp2_with (first | (go_at_call 35; refine (implicitBlock_no hSx hok0 HN.out).mono ?_; rintro r w3 ⟨rfl, hO3⟩; have hS3 := hSx.same hO3; have hT3 := hTx.same hO3) | (go_at_call 26; ((with_reducible refine (insert_p hS3 hk1 123).mono ?_); rintro r w4 ⟨rfl, vo4, hS4, hO4, hF4⟩; have hT4 := hT3.only hO4 HKE.out; clear hO4; obtain ⟨i0, i1, i2, i3, i4, i5, i6⟩ := hT4.all; have c4 := hS4.c4)))
            refine still_tail_w 10 (by kernel_rfl) (by kernel_rfl) (fun wd => IS wd b _ vo4 (insS s 123) ∧ TB wd w.heap.size t ∧ Frm w b _ vo wd _ vo4) ⟨hS4.same (Only.drew (Only.refl _ _)), hT4.same (Only.drew (Only.refl _ _)), ((Frm.keep (hOx.trans hO3)).trans hF4).trans (Frm.keep (Only.drew (Only.refl _ _)))⟩ ?_
            clear i0 i1 i2 i3 i4 i5 i6 c4
            rintro wd ⟨hSd, hTd, hOd⟩
            have k4 := hSd.c4
            have k6 := hTd.c6
            simp only [List.take_succ_cons, List.take_zero, List.drop_succ_cons, List.drop_zero]
            repeat still_step
            refine wpStill_nil ?_
            go_wp2_with (go_at_call 36; refine (push_p hSd hk2 ⟨0, t.col, s.word, false, 0, 0⟩).mono ?_; rintro r w5 ⟨rfl, ve5, hS5, hF5⟩)
            go_ret
            rw [HE.out]
            exact ⟨rfl, hS5.x (hOd.trans hF5)⟩
          · have HE : Hid (beginS s t = (false, closedS (insS (insS s 123) 125) s.word)) := Lib.hid (by unfold beginS; rw [H1.out, HNM.out, HC.out, if_neg Bool.false_ne_true, if_neg Bool.false_ne_true]; simp only; rw [if_neg hcol])
            have t1 : decide (0 < t.col) = false := decide_eq_false hcol
            clear hcol
            go_wp2_with (first | (go_at_call 35; refine (implicitBlock_no hSx hok0 HN.out).mono ?_; rintro r w3 ⟨rfl, hO3⟩; have hS3 := hSx.same hO3; have hT3 := hTx.same hO3) | (go_at_call 26; ((with_reducible refine (insert_p hS3 hk1 123).mono ?_); rintro r w4 ⟨rfl, vo4, hS4, hO4, hF4⟩; have hT4 := hT3.only hO4 HKE.out; clear hO4; obtain ⟨i0, i1, i2, i3, i4, i5, i6⟩ := hT4.all; have c4 := hS4.c4)) | (go_at_call 26; ((with_reducible refine (insert_p hS4 hk2 125).mono ?_); rintro r w5 ⟨rfl, vo5, hS5, hO5, hF5⟩; clear hO5; have j4 := hS5.c4)) | (go_at_call 37; refine (closed_p hS5 s.word (fun _ => hk3)).mono ?_; rintro r w6 ⟨rfl, hS6⟩))
            go_ret
            rw [HE.out]
            exact ⟨rfl, hS6.frm (((Frm.keep (hOx.trans hO3)).trans hF4).trans hF5)⟩
        · obtain ⟨g, ca, hve, -, -, -, hec, -⟩ := hSx.elem hi
          subst hve
          have HC := Lib.hid hc
          have HA := Lib.hid ha
          have HI := Lib.hid hi
          clear hc ha hec
          have HX : Hid (∀ w', Only (fun _ => False) w2 w' → w'.cell? ⟨g, i * 6 + 1, none⟩ = some (.int .i64 e.col)) := Lib.hid (fun w' ho => by
            obtain ⟨g', ca', hve, -, -, -, hc', -⟩ := (hSx.same ho).elem HI.out
            cases hve
            exact hc'.c1)
          clear hi
          by_cases hcol : e.col < t.col
          · have HE : Hid (beginS s t = (true, pushE (insS s 123) ⟨0, t.col, s.word, false, 0, 0⟩)) := Lib.hid (by unfold beginS; rw [H1.out, HNM.out, HC.out, if_neg Bool.false_ne_true, if_neg Bool.false_ne_true]; simp only; rw [if_pos hcol])
            have t1 : decide (e.col < t.col) = true := decide_eq_true hcol
            clear hcol
            go_wp2_with (first | (go_at_call 35; refine (implicitBlock_yes hSx hok0 HA.out HI.out hkk).mono ?_; rintro r w3 ⟨rfl, hO3⟩; have hS3 := hSx.same hO3; have hT3 := hTx.same hO3; have b1 := HX.out _ hO3) | (go_at_call 26; ((with_reducible refine (insert_p hS3 hk1 123).mono ?_); rintro r w4 ⟨rfl, vo4, hS4, hO4, hF4⟩; have hT4 := hT3.only hO4 HKE.out; clear hO4; obtain ⟨i0, i1, i2, i3, i4, i5, i6⟩ := hT4.all; have c4 := hS4.c4)))
            refine still_tail_w 10 (by kernel_rfl) (by kernel_rfl) (fun wd => IS wd b _ vo4 (insS s 123) ∧ TB wd w.heap.size t ∧ Frm w b _ vo wd _ vo4) ⟨hS4.same (Only.drew (Only.refl _ _)), hT4.same (Only.drew (Only.refl _ _)), ((Frm.keep (hOx.trans hO3)).trans hF4).trans (Frm.keep (Only.drew (Only.refl _ _)))⟩ ?_
            clear i0 i1 i2 i3 i4 i5 i6 c4
            rintro wd ⟨hSd, hTd, hOd⟩
            have k4 := hSd.c4
            have k6 := hTd.c6
            simp only [List.take_succ_cons, List.take_zero, List.drop_succ_cons, List.drop_zero]
            repeat still_step
            refine wpStill_nil ?_
            go_wp2_with (go_at_call 36; refine (push_p hSd hk2 ⟨0, t.col, s.word, false, 0, 0⟩).mono ?_; rintro r w5 ⟨rfl, ve5, hS5, hF5⟩)
            go_ret
            rw [HE.out]
            exact ⟨rfl, hS5.x (hOd.trans hF5)⟩
          · have HE : Hid (beginS s t = (false, closedS (insS (insS s 123) 125) s.word)) := Lib.hid (by unfold beginS; rw [H1.out, HNM.out, HC.out, if_neg Bool.false_ne_true, if_neg Bool.false_ne_true]; simp only; rw [if_neg hcol])
            have t1 : decide (e.col < t.col) = false := decide_eq_false hcol
            clear hcol
            go_wp2_with (first | (go_at_call 35; refine (implicitBlock_yes hSx hok0 HA.out HI.out hkk).mono ?_; rintro r w3 ⟨rfl, hO3⟩; have hS3 := hSx.same hO3; have hT3 := hTx.same hO3; have b1 := HX.out _ hO3) | (go_at_call 26; ((with_reducible refine (insert_p hS3 hk1 123).mono ?_); rintro r w4 ⟨rfl, vo4, hS4, hO4, hF4⟩; have hT4 := hT3.only hO4 HKE.out; clear hO4; obtain ⟨i0, i1, i2, i3, i4, i5, i6⟩ := hT4.all; have c4 := hS4.c4)) | (go_at_call 26; ((with_reducible refine (insert_p hS4 hk2 125).mono ?_); rintro r w5 ⟨rfl, vo5, hS5, hO5, hF5⟩; clear hO5; have j4 := hS5.c4)) | (go_at_call 37; refine (closed_p hS5 s.word (fun _ => hk3)).mono ?_; rintro r w6 ⟨rfl, hS6⟩))
            go_ret
            rw [HE.out]
            exact ⟨rfl, hS6.frm (((Frm.keep (hOx.trans hO3)).trans hF4).trans hF5)⟩
      · have H2 := Lib.hid h2
        have HE : Hid (beginS s t = (false, s)) := Lib.hid (by unfold beginS; rw [if_neg (by rw [h1]; exact Bool.false_ne_true), if_pos (by rw [hw]; exact h2)])
        clear h1 hw h2
        go_enter Try.func21, Try.ntmps21
        go_wp2_with (first | (go_at_call 19; ((with_reducible refine (isSpecial_v t [123] _ _ H1.out).mono ?_); rintro r w1 ⟨rfl, hO1⟩; have hS1 := h0.same hO1; have hT1 := t0.same hO1; have c4 := hS1.c4; obtain ⟨e0, e1, e2, e3, e4, e5, e6⟩ := hT1.all)) | (go_at_call 34; ((with_reducible refine (isWord_v t [109, 111, 100, 117, 108, 101] _ _ H2.out).mono ?_); rintro r w2 ⟨rfl, hO2⟩; have hS2 := hS1.same hO2; have hT2 := hT1.same hO2)))
        go_ret
        rw [HE.out]
        exact ⟨rfl, hS2.x (Frm.keep ((hA.trans hO1).trans hO2))⟩
  · have H1 := Lib.hid h1
    have HR : Hid (beginS s t = (true, s)) := Lib.hid (by unfold beginS; rw [if_pos h1])
    clear h1
    go_enter Try.func21, Try.ntmps21
    go_wp2_with (go_at_call 19; ((with_reducible refine (isSpecial_v t [123] _ _ H1.out).mono ?_); rintro r w1 ⟨rfl, hO1⟩))
    go_ret
    rw [HR.out]
    exact ⟨rfl, (h0.same hO1).x (Frm.keep (hA.trans hO1))⟩
end
end Go.Proofs.Ythblchafjmgmbaa
