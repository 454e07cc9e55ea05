/-
  WALKS. The reference's machine: open, where a block begins.
-/
import Derived.Test.YthblchafjmgmbaaLzL
namespace Go.Proofs.Ythblchafjmgmbaa
open Go.RowKit Go.Maps

section
variable {w w' : World} {b : Nat} {vs vo : Value} {m : RM} {li : Int} {fi : Bool} {F : RF}
set_option maxRecDepth 100000 in
set_option maxHeartbeats 8000000 in
theorem ropen_a_no_lt (h : MS w b vs vo m li fi F) (hk : Sz 4 m) (t : Tok) (hx : m.expects = true) (h1 : spT t [123] = false) (hw : m.word.data.toList.isEmpty = false) (hxb : rBlk m.stack = -1) (hg : getR m.stack (rBlk m.stack) = none) (hcol : 0 < t.col) : Calls Try.prog 28 #[.pointer (some ⟨b, 0, none⟩), tokV t] w (OpR w b vs vo m t li fi F) := by
  have hbc : rBegC m.stack = 0 := rBegC_no hg
  have HR := Lib.hid (rOpen_col hx h1 (by rw [hw]; rfl) hbc)
  rw [if_pos hcol] at HR
  have hbl := h.lt
  have hE := h.unexp
  have h0 := hE.same (Only.alloc (Only.refl (fun _ => False) _) (.cells (tokA t) 33))
  have t0 := unexp_tb w b t
  have hp0 : Pr ((w.setCell ⟨b, 2, none⟩ (.bool false)).alloc (.cells (tokA t) 33)) b vs vo w.heap.size := h.pr (Nat.le_refl _) (by rw [unexp_sz]; omega)
  have hf0 := unexp_frm w b vs vo t
  have c2 := h.c2
  rw [hx] at c2
  have z2 := h.fz 2
  have t1 : decide (0 < t.col) = true := decide_eq_true hcol
  have hk0 : Rm 0 m := (hk.less (by omega)).rm
  have hk1 : Rm 1 m := (hk.less (by omega)).rm
  have hr0 : Rm 0 (rUn m) := ⟨hk0.els, hk0.out⟩
  have hr1 : Rm 1 (rUn m) := ⟨hk1.els, hk1.out⟩
  have hr2 : Rm 1 (rIns (rUn m) 123) := ⟨hr1.els, by have := hk.rm.out; rw [rIns_len]; show m.out.length + 1 + 1 ≤ _; omega⟩
  have H1 := Lib.hid h1
  have HXB : Hid (rBlk (rUn m).stack = -1) := Lib.hid hxb
  have HT := Lib.hid (Lib.toList_data m.word)
  have hw1 : (m.word.toList == []) = false := by rw [HT.out]; cases hh : m.word.data.toList with
    | nil => rw [hh] at hw; cases hw
    | cons _ _ => rfl
  have hw2 : m.word.toList.isEmpty = false := by rw [HT.out]; exact hw
  clear h1 hx hw hxb hg hcol hbc hk0 hk1
  go_enter Try.func28, Try.ntmps28
  go_wp2_with (first | (go_at_call 47; ((with_reducible refine (rspecial_v t [123] _ _ H1.out).mono ?_); rintro r w1 ⟨rfl, hO1⟩; have hS1 := h0.same hO1; have hT1 := t0.same hO1; have hP1 := (hp0.frm (Frm.keep hO1)).1; have hF1 := hf0.trans (Frm.keep hO1); have c3 : w1.cell? ⟨b, 3, none⟩ = some (.string m.word) := hS1.c3; obtain ⟨e0, e1, e2, e3, e4, e5, e6⟩ := hT1.all)) | (go_at_call 49; (refine (rblock_p hS1 hr0).mono ?_); rw [HXB.out]; rintro r w3 ⟨rfl, hw3⟩; subst hw3) | (go_at_call 16; ((with_reducible refine (rinsert_p hS1 hr1 123).mono ?_); rintro r w4 ⟨rfl, vo4, hS4, hF4⟩; have hT4 := TB.frm hT1 hP1 hF4; have hFF4 := hF1.trans hF4; obtain ⟨i0, i1, i2, i3, i4, i5, i6⟩ := hT4.all; have k3 : w4.cell? ⟨b, 3, none⟩ = some (.string m.word) := hS4.c3)))
  refine still_tail_w 8 (by kernel_rfl) (by kernel_rfl) (fun wd => MS wd b _ vo4 (rIns (rUn m) 123) li fi F ∧ TB wd w.heap.size t ∧ Frm w b _ vo wd _ vo4) ⟨hS4.same (Only.drew (Only.refl _ _)), hT4.same (Only.drew (Only.refl _ _)), hFF4.trans (Frm.keep (Only.drew (Only.refl _ _)))⟩ ?_
  clear i0 i1 i2 i3 i4 i5 i6 k3
  rintro wd ⟨hSd, hTd, hFd⟩
  have k3 : wd.cell? ⟨b, 3, none⟩ = some (.string m.word) := hSd.c3
  have k6 := hTd.c6
  simp only [List.take_succ_cons, List.take_zero, List.drop_succ_cons, List.drop_zero]
  repeat still_step
  refine wpStill_nil ?_
  go_wp2_with (go_at_call 50; refine (rpush_p hSd hr2 ⟨1, t.col, m.word, false⟩).mono ?_; rintro r w5 ⟨rfl, vs5, hS5, hF5⟩)
  go_ret
  unfold OpR
  rw [HR.out]
  exact ⟨rfl, hS5.x (hFd.trans hF5)⟩
set_option maxRecDepth 100000 in
set_option maxHeartbeats 8000000 in
theorem ropen_a_no_ge (h : MS w b vs vo m li fi F) (hk : Sz 4 m) (t : Tok) (hx : m.expects = true) (h1 : spT t [123] = false) (hw : m.word.data.toList.isEmpty = false) (hxb : rBlk m.stack = -1) (hg : getR m.stack (rBlk m.stack) = none) (hcol : ¬ 0 < t.col) : Calls Try.prog 28 #[.pointer (some ⟨b, 0, none⟩), tokV t] w (OpR w b vs vo m t li fi F) := by
  have hbc : rBegC m.stack = 0 := rBegC_no hg
  have HR := Lib.hid (rOpen_col hx h1 (by rw [hw]; rfl) hbc)
  rw [if_neg hcol] at HR
  have hbl := h.lt
  have hE := h.unexp
  have h0 := hE.same (Only.alloc (Only.refl (fun _ => False) _) (.cells (tokA t) 33))
  have t0 := unexp_tb w b t
  have hp0 : Pr ((w.setCell ⟨b, 2, none⟩ (.bool false)).alloc (.cells (tokA t) 33)) b vs vo w.heap.size := h.pr (Nat.le_refl _) (by rw [unexp_sz]; omega)
  have hf0 := unexp_frm w b vs vo t
  have c2 := h.c2
  rw [hx] at c2
  have z2 := h.fz 2
  have t1 : decide (0 < t.col) = false := decide_eq_false hcol
  have hk0 : Rm 0 m := (hk.less (by omega)).rm
  have hk1 : Rm 1 m := (hk.less (by omega)).rm
  have hr0 : Rm 0 (rUn m) := ⟨hk0.els, hk0.out⟩
  have hr1 : Rm 1 (rUn m) := ⟨hk1.els, hk1.out⟩
  have hr2 : Rm 1 (rIns (rUn m) 123) := ⟨hr1.els, by have := hk.rm.out; rw [rIns_len]; show m.out.length + 1 + 1 ≤ _; omega⟩
  have hr3 : Rm 1 (rIns (rIns (rUn m) 123) 125) := ⟨hr1.els, by have := hk.rm.out; rw [rIns_len, rIns_len]; show m.out.length + 1 + 1 + 1 ≤ _; omega⟩
  have H1 := Lib.hid h1
  have HXB : Hid (rBlk (rUn m).stack = -1) := Lib.hid hxb
  have HT := Lib.hid (Lib.toList_data m.word)
  have hw1 : (m.word.toList == []) = false := by rw [HT.out]; cases hh : m.word.data.toList with
    | nil => rw [hh] at hw; cases hw
    | cons _ _ => rfl
  have hw2 : m.word.toList.isEmpty = false := by rw [HT.out]; exact hw
  clear h1 hx hw hxb hg hcol hbc hk0 hk1
  go_enter Try.func28, Try.ntmps28
  go_wp2_with (first | (go_at_call 47; ((with_reducible refine (rspecial_v t [123] _ _ H1.out).mono ?_); rintro r w1 ⟨rfl, hO1⟩; have hS1 := h0.same hO1; have hT1 := t0.same hO1; have hP1 := (hp0.frm (Frm.keep hO1)).1; have hF1 := hf0.trans (Frm.keep hO1); have c3 : w1.cell? ⟨b, 3, none⟩ = some (.string m.word) := hS1.c3; obtain ⟨e0, e1, e2, e3, e4, e5, e6⟩ := hT1.all)) | (go_at_call 49; (refine (rblock_p hS1 hr0).mono ?_); rw [HXB.out]; rintro r w3 ⟨rfl, hw3⟩; subst hw3) | (go_at_call 16; ((with_reducible refine (rinsert_p hS1 hr1 123).mono ?_); rintro r w4 ⟨rfl, vo4, hS4, hF4⟩; have hT4 := TB.frm hT1 hP1 hF4; have hFF4 := hF1.trans hF4; obtain ⟨i0, i1, i2, i3, i4, i5, i6⟩ := hT4.all; have k3 : w4.cell? ⟨b, 3, none⟩ = some (.string m.word) := hS4.c3)) | (go_at_call 16; ((with_reducible refine (rinsert_p hS4 hr2 125).mono ?_); rintro r w5 ⟨rfl, vo5, hS5, hF5⟩; have j3 : w5.cell? ⟨b, 3, none⟩ = some (.string m.word) := hS5.c3)) | (go_at_call 51; refine (wait_p hS5 m.word (fun _ => hr3)).mono ?_; rintro r w6 ⟨rfl, hS6⟩))
  go_ret
  unfold OpR
  rw [HR.out]
  exact ⟨rfl, hS6.frm (hFF4.trans hF5)⟩
set_option maxRecDepth 100000 in
set_option maxHeartbeats 8000000 in
theorem ropen_a_imp_lt (h : MS w b vs vo m li fi F) (hk : Sz 4 m) (t : Tok) (hx : m.expects = true) (h1 : spT t [123] = false) (hw : m.word.data.toList.isEmpty = false) {i : Nat} {e : REl} (hi : i < m.stack.length) (hxb : rBlk m.stack = (i : Int)) (he : m.stack[i] = e) (hg : getR m.stack (rBlk m.stack) = some e) (hq : (e.form == 1) = true) (hcol : e.col < t.col) : Calls Try.prog 28 #[.pointer (some ⟨b, 0, none⟩), tokV t] w (OpR w b vs vo m t li fi F) := by
  have hbc : rBegC m.stack = e.col := (rBegC_at hxb hg).trans (by rw [hq]; rfl)
  have HR := Lib.hid (rOpen_col hx h1 (by rw [hw]; rfl) hbc)
  rw [if_pos hcol] at HR
  have hbl := h.lt
  have hE := h.unexp
  have h0 := hE.same (Only.alloc (Only.refl (fun _ => False) _) (.cells (tokA t) 33))
  have t0 := unexp_tb w b t
  have hp0 : Pr ((w.setCell ⟨b, 2, none⟩ (.bool false)).alloc (.cells (tokA t) 33)) b vs vo w.heap.size := h.pr (Nat.le_refl _) (by rw [unexp_sz]; omega)
  have hf0 := unexp_frm w b vs vo t
  have c2 := h.c2
  rw [hx] at c2
  have z2 := h.fz 2
  have t1 : decide (e.col < t.col) = true := decide_eq_true hcol
  have hk0 : Rm 0 m := (hk.less (by omega)).rm
  have hk1 : Rm 1 m := (hk.less (by omega)).rm
  have hr0 : Rm 0 (rUn m) := ⟨hk0.els, hk0.out⟩
  have hr1 : Rm 1 (rUn m) := ⟨hk1.els, hk1.out⟩
  have hr2 : Rm 1 (rIns (rUn m) 123) := ⟨hr1.els, by have := hk.rm.out; rw [rIns_len]; show m.out.length + 1 + 1 ≤ _; omega⟩
  have H1 := Lib.hid h1
  have HXB : Hid (rBlk (rUn m).stack = (i : Int)) := Lib.hid hxb
  have HT := Lib.hid (Lib.toList_data m.word)
  have hw1 : (m.word.toList == []) = false := by rw [HT.out]; cases hh : m.word.data.toList with
    | nil => rw [hh] at hw; cases hw
    | cons _ _ => rfl
  have hw2 : m.word.toList.isEmpty = false := by rw [HT.out]; exact hw
  obtain ⟨oa, ca, rfl⟩ := h.elen
  obtain ⟨g, hve, hbg, -, hca, -, -⟩ := h.els.at hi
  cases hve
  obtain ⟨n, hn⟩ : ∃ n, m.stack.length = n := ⟨_, rfl⟩
  obtain ⟨f, hf⟩ : ∃ f, e.form = f := ⟨_, rfl⟩
  have HAT : Hid (∀ wx vx, MS wx b (.slice (some ⟨g, 0, none⟩) n ca) vx (rUn m) li fi F → wx.cell? ⟨b, 0, none⟩ = some (.slice (some ⟨g, 0, none⟩) n ca) ∧ wx.cell? ⟨g, i * 4, none⟩ = some (.int .i64 f) ∧ wx.cell? ⟨g, i * 4 + 1, none⟩ = some (.int .i64 e.col)) := Lib.hid (fun wx vx hM => by
    obtain ⟨g', hv', -, -, -, hc', hf'⟩ := hM.els.at (k := i) hi
    cases hv'
    have h9 : (rUn m).stack[i]'hi = e := he
    rw [h9] at hc'
    exact ⟨hM.c0, hf ▸ hc'.c0, hc'.c1⟩)
  rw [hn] at h h0 hp0 hf0 hE hi hca ⊢
  have HN := Lib.hid hn
  rw [hf] at hq
  have hq2 : (f != 1) = false := by simpa [bne] using hq
  have hin : (i : Int) < (n : Int) := by omega
  have hin2 : i < n := hi
  have hw5 : (0 : Int) ≤ (i : Int) := Int.natCast_nonneg i
  have hw6 : (i : Int).toNat = i := Int.toNat_natCast i
  have hw7 : decide ((i : Int) < 0) = false := by simp
  clear hi hn hf he hca
  clear h1 hx hw hxb hg hcol hbc hk0 hk1
  go_enter Try.func28, Try.ntmps28
  go_wp2_with (first | (go_at_call 47; ((with_reducible refine (rspecial_v t [123] _ _ H1.out).mono ?_); rintro r w1 ⟨rfl, hO1⟩; have hS1 := h0.same hO1; have hT1 := t0.same hO1; have hP1 := (hp0.frm (Frm.keep hO1)).1; have hF1 := hf0.trans (Frm.keep hO1); have c3 : w1.cell? ⟨b, 3, none⟩ = some (.string m.word) := hS1.c3; obtain ⟨e0, e1, e2, e3, e4, e5, e6⟩ := hT1.all)) | (go_at_call 49; (refine (rblock_p hS1 hr0).mono ?_); rw [HXB.out]; rintro r w3 ⟨rfl, hw3⟩; subst hw3; obtain ⟨k0, d0, d1⟩ := HAT.out _ _ hS1) | (go_at_call 16; ((with_reducible refine (rinsert_p hS1 hr1 123).mono ?_); rintro r w4 ⟨rfl, vo4, hS4, hF4⟩; have hT4 := TB.frm hT1 hP1 hF4; have hFF4 := hF1.trans hF4; obtain ⟨i0, i1, i2, i3, i4, i5, i6⟩ := hT4.all; have k3 : w4.cell? ⟨b, 3, none⟩ = some (.string m.word) := hS4.c3)))
  refine still_tail_w 8 (by kernel_rfl) (by kernel_rfl) (fun wd => MS wd b _ vo4 (rIns (rUn m) 123) li fi F ∧ TB wd w.heap.size t ∧ Frm w b _ vo wd _ vo4) ⟨hS4.same (Only.drew (Only.refl _ _)), hT4.same (Only.drew (Only.refl _ _)), hFF4.trans (Frm.keep (Only.drew (Only.refl _ _)))⟩ ?_
  clear i0 i1 i2 i3 i4 i5 i6 k3
  rintro wd ⟨hSd, hTd, hFd⟩
  have k3 : wd.cell? ⟨b, 3, none⟩ = some (.string m.word) := hSd.c3
  have k6 := hTd.c6
  simp only [List.take_succ_cons, List.take_zero, List.drop_succ_cons, List.drop_zero]
  repeat still_step
  refine wpStill_nil ?_
  go_wp2_with (go_at_call 50; refine (rpush_p hSd hr2 ⟨1, t.col, m.word, false⟩).mono ?_; rintro r w5 ⟨rfl, vs5, hS5, hF5⟩)
  go_ret
  unfold OpR
  rw [HR.out]
  exact ⟨rfl, hS5.x (hFd.trans hF5)⟩
set_option maxRecDepth 100000 in
set_option maxHeartbeats 8000000 in
theorem ropen_a_imp_ge (h : MS w b vs vo m li fi F) (hk : Sz 4 m) (t : Tok) (hx : m.expects = true) (h1 : spT t [123] = false) (hw : m.word.data.toList.isEmpty = false) {i : Nat} {e : REl} (hi : i < m.stack.length) (hxb : rBlk m.stack = (i : Int)) (he : m.stack[i] = e) (hg : getR m.stack (rBlk m.stack) = some e) (hq : (e.form == 1) = true) (hcol : ¬ e.col < t.col) : Calls Try.prog 28 #[.pointer (some ⟨b, 0, none⟩), tokV t] w (OpR w b vs vo m t li fi F) := by
  have hbc : rBegC m.stack = e.col := (rBegC_at hxb hg).trans (by rw [hq]; rfl)
  have HR := Lib.hid (rOpen_col hx h1 (by rw [hw]; rfl) hbc)
  rw [if_neg hcol] at HR
  have hbl := h.lt
  have hE := h.unexp
  have h0 := hE.same (Only.alloc (Only.refl (fun _ => False) _) (.cells (tokA t) 33))
  have t0 := unexp_tb w b t
  have hp0 : Pr ((w.setCell ⟨b, 2, none⟩ (.bool false)).alloc (.cells (tokA t) 33)) b vs vo w.heap.size := h.pr (Nat.le_refl _) (by rw [unexp_sz]; omega)
  have hf0 := unexp_frm w b vs vo t
  have c2 := h.c2
  rw [hx] at c2
  have z2 := h.fz 2
  have t1 : decide (e.col < t.col) = false := decide_eq_false hcol
  have hk0 : Rm 0 m := (hk.less (by omega)).rm
  have hk1 : Rm 1 m := (hk.less (by omega)).rm
  have hr0 : Rm 0 (rUn m) := ⟨hk0.els, hk0.out⟩
  have hr1 : Rm 1 (rUn m) := ⟨hk1.els, hk1.out⟩
  have hr2 : Rm 1 (rIns (rUn m) 123) := ⟨hr1.els, by have := hk.rm.out; rw [rIns_len]; show m.out.length + 1 + 1 ≤ _; omega⟩
  have hr3 : Rm 1 (rIns (rIns (rUn m) 123) 125) := ⟨hr1.els, by have := hk.rm.out; rw [rIns_len, rIns_len]; show m.out.length + 1 + 1 + 1 ≤ _; omega⟩
  have H1 := Lib.hid h1
  have HXB : Hid (rBlk (rUn m).stack = (i : Int)) := Lib.hid hxb
  have HT := Lib.hid (Lib.toList_data m.word)
  have hw1 : (m.word.toList == []) = false := by rw [HT.out]; cases hh : m.word.data.toList with
    | nil => rw [hh] at hw; cases hw
    | cons _ _ => rfl
  have hw2 : m.word.toList.isEmpty = false := by rw [HT.out]; exact hw
  obtain ⟨oa, ca, rfl⟩ := h.elen
  obtain ⟨g, hve, hbg, -, hca, -, -⟩ := h.els.at hi
  cases hve
  obtain ⟨n, hn⟩ : ∃ n, m.stack.length = n := ⟨_, rfl⟩
  obtain ⟨f, hf⟩ : ∃ f, e.form = f := ⟨_, rfl⟩
  have HAT : Hid (∀ wx vx, MS wx b (.slice (some ⟨g, 0, none⟩) n ca) vx (rUn m) li fi F → wx.cell? ⟨b, 0, none⟩ = some (.slice (some ⟨g, 0, none⟩) n ca) ∧ wx.cell? ⟨g, i * 4, none⟩ = some (.int .i64 f) ∧ wx.cell? ⟨g, i * 4 + 1, none⟩ = some (.int .i64 e.col)) := Lib.hid (fun wx vx hM => by
    obtain ⟨g', hv', -, -, -, hc', hf'⟩ := hM.els.at (k := i) hi
    cases hv'
    have h9 : (rUn m).stack[i]'hi = e := he
    rw [h9] at hc'
    exact ⟨hM.c0, hf ▸ hc'.c0, hc'.c1⟩)
  rw [hn] at h h0 hp0 hf0 hE hi hca ⊢
  have HN := Lib.hid hn
  rw [hf] at hq
  have hq2 : (f != 1) = false := by simpa [bne] using hq
  have hin : (i : Int) < (n : Int) := by omega
  have hin2 : i < n := hi
  have hw5 : (0 : Int) ≤ (i : Int) := Int.natCast_nonneg i
  have hw6 : (i : Int).toNat = i := Int.toNat_natCast i
  have hw7 : decide ((i : Int) < 0) = false := by simp
  clear hi hn hf he hca
  clear h1 hx hw hxb hg hcol hbc hk0 hk1
  go_enter Try.func28, Try.ntmps28
  go_wp2_with (first | (go_at_call 47; ((with_reducible refine (rspecial_v t [123] _ _ H1.out).mono ?_); rintro r w1 ⟨rfl, hO1⟩; have hS1 := h0.same hO1; have hT1 := t0.same hO1; have hP1 := (hp0.frm (Frm.keep hO1)).1; have hF1 := hf0.trans (Frm.keep hO1); have c3 : w1.cell? ⟨b, 3, none⟩ = some (.string m.word) := hS1.c3; obtain ⟨e0, e1, e2, e3, e4, e5, e6⟩ := hT1.all)) | (go_at_call 49; (refine (rblock_p hS1 hr0).mono ?_); rw [HXB.out]; rintro r w3 ⟨rfl, hw3⟩; subst hw3; obtain ⟨k0, d0, d1⟩ := HAT.out _ _ hS1) | (go_at_call 16; ((with_reducible refine (rinsert_p hS1 hr1 123).mono ?_); rintro r w4 ⟨rfl, vo4, hS4, hF4⟩; have hT4 := TB.frm hT1 hP1 hF4; have hFF4 := hF1.trans hF4; obtain ⟨i0, i1, i2, i3, i4, i5, i6⟩ := hT4.all; have k3 : w4.cell? ⟨b, 3, none⟩ = some (.string m.word) := hS4.c3)) | (go_at_call 16; ((with_reducible refine (rinsert_p hS4 hr2 125).mono ?_); rintro r w5 ⟨rfl, vo5, hS5, hF5⟩; have j3 : w5.cell? ⟨b, 3, none⟩ = some (.string m.word) := hS5.c3)) | (go_at_call 51; refine (wait_p hS5 m.word (fun _ => hr3)).mono ?_; rintro r w6 ⟨rfl, hS6⟩))
  go_ret
  unfold OpR
  rw [HR.out]
  exact ⟨rfl, hS6.frm (hFF4.trans hF5)⟩
set_option maxRecDepth 100000 in
set_option maxHeartbeats 8000000 in
theorem ropen_a_oth_lt (h : MS w b vs vo m li fi F) (hk : Sz 4 m) (t : Tok) (hx : m.expects = true) (h1 : spT t [123] = false) (hw : m.word.data.toList.isEmpty = false) {i : Nat} {e : REl} (hi : i < m.stack.length) (hxb : rBlk m.stack = (i : Int)) (he : m.stack[i] = e) (hg : getR m.stack (rBlk m.stack) = some e) (hq : (e.form == 1) = false) (hcol : 0 < t.col) : Calls Try.prog 28 #[.pointer (some ⟨b, 0, none⟩), tokV t] w (OpR w b vs vo m t li fi F) := by
  have hbc : rBegC m.stack = 0 := (rBegC_at hxb hg).trans (by rw [hq]; rfl)
  have HR := Lib.hid (rOpen_col hx h1 (by rw [hw]; rfl) hbc)
  rw [if_pos hcol] at HR
  have hbl := h.lt
  have hE := h.unexp
  have h0 := hE.same (Only.alloc (Only.refl (fun _ => False) _) (.cells (tokA t) 33))
  have t0 := unexp_tb w b t
  have hp0 : Pr ((w.setCell ⟨b, 2, none⟩ (.bool false)).alloc (.cells (tokA t) 33)) b vs vo w.heap.size := h.pr (Nat.le_refl _) (by rw [unexp_sz]; omega)
  have hf0 := unexp_frm w b vs vo t
  have c2 := h.c2
  rw [hx] at c2
  have z2 := h.fz 2
  have t1 : decide (0 < t.col) = true := decide_eq_true hcol
  have hk0 : Rm 0 m := (hk.less (by omega)).rm
  have hk1 : Rm 1 m := (hk.less (by omega)).rm
  have hr0 : Rm 0 (rUn m) := ⟨hk0.els, hk0.out⟩
  have hr1 : Rm 1 (rUn m) := ⟨hk1.els, hk1.out⟩
  have hr2 : Rm 1 (rIns (rUn m) 123) := ⟨hr1.els, by have := hk.rm.out; rw [rIns_len]; show m.out.length + 1 + 1 ≤ _; omega⟩
  have H1 := Lib.hid h1
  have HXB : Hid (rBlk (rUn m).stack = (i : Int)) := Lib.hid hxb
  have HT := Lib.hid (Lib.toList_data m.word)
  have hw1 : (m.word.toList == []) = false := by rw [HT.out]; cases hh : m.word.data.toList with
    | nil => rw [hh] at hw; cases hw
    | cons _ _ => rfl
  have hw2 : m.word.toList.isEmpty = false := by rw [HT.out]; exact hw
  obtain ⟨oa, ca, rfl⟩ := h.elen
  obtain ⟨g, hve, hbg, -, hca, -, -⟩ := h.els.at hi
  cases hve
  obtain ⟨n, hn⟩ : ∃ n, m.stack.length = n := ⟨_, rfl⟩
  obtain ⟨f, hf⟩ : ∃ f, e.form = f := ⟨_, rfl⟩
  have HAT : Hid (∀ wx vx, MS wx b (.slice (some ⟨g, 0, none⟩) n ca) vx (rUn m) li fi F → wx.cell? ⟨b, 0, none⟩ = some (.slice (some ⟨g, 0, none⟩) n ca) ∧ wx.cell? ⟨g, i * 4, none⟩ = some (.int .i64 f) ∧ wx.cell? ⟨g, i * 4 + 1, none⟩ = some (.int .i64 e.col)) := Lib.hid (fun wx vx hM => by
    obtain ⟨g', hv', -, -, -, hc', hf'⟩ := hM.els.at (k := i) hi
    cases hv'
    have h9 : (rUn m).stack[i]'hi = e := he
    rw [h9] at hc'
    exact ⟨hM.c0, hf ▸ hc'.c0, hc'.c1⟩)
  rw [hn] at h h0 hp0 hf0 hE hi hca ⊢
  have HN := Lib.hid hn
  rw [hf] at hq
  have hq2 : (f != 1) = true := by simpa [bne] using hq
  have hin : (i : Int) < (n : Int) := by omega
  have hin2 : i < n := hi
  have hw5 : (0 : Int) ≤ (i : Int) := Int.natCast_nonneg i
  have hw6 : (i : Int).toNat = i := Int.toNat_natCast i
  have hw7 : decide ((i : Int) < 0) = false := by simp
  clear hi hn hf he hca
  clear h1 hx hw hxb hg hcol hbc hk0 hk1
  go_enter Try.func28, Try.ntmps28
  go_wp2_with (first | (go_at_call 47; ((with_reducible refine (rspecial_v t [123] _ _ H1.out).mono ?_); rintro r w1 ⟨rfl, hO1⟩; have hS1 := h0.same hO1; have hT1 := t0.same hO1; have hP1 := (hp0.frm (Frm.keep hO1)).1; have hF1 := hf0.trans (Frm.keep hO1); have c3 : w1.cell? ⟨b, 3, none⟩ = some (.string m.word) := hS1.c3; obtain ⟨e0, e1, e2, e3, e4, e5, e6⟩ := hT1.all)) | (go_at_call 49; (refine (rblock_p hS1 hr0).mono ?_); rw [HXB.out]; rintro r w3 ⟨rfl, hw3⟩; subst hw3; obtain ⟨k0, d0, d1⟩ := HAT.out _ _ hS1) | (go_at_call 16; ((with_reducible refine (rinsert_p hS1 hr1 123).mono ?_); rintro r w4 ⟨rfl, vo4, hS4, hF4⟩; have hT4 := TB.frm hT1 hP1 hF4; have hFF4 := hF1.trans hF4; obtain ⟨i0, i1, i2, i3, i4, i5, i6⟩ := hT4.all; have k3 : w4.cell? ⟨b, 3, none⟩ = some (.string m.word) := hS4.c3)))
  refine still_tail_w 8 (by kernel_rfl) (by kernel_rfl) (fun wd => MS wd b _ vo4 (rIns (rUn m) 123) li fi F ∧ TB wd w.heap.size t ∧ Frm w b _ vo wd _ vo4) ⟨hS4.same (Only.drew (Only.refl _ _)), hT4.same (Only.drew (Only.refl _ _)), hFF4.trans (Frm.keep (Only.drew (Only.refl _ _)))⟩ ?_
  clear i0 i1 i2 i3 i4 i5 i6 k3
  rintro wd ⟨hSd, hTd, hFd⟩
  have k3 : wd.cell? ⟨b, 3, none⟩ = some (.string m.word) := hSd.c3
  have k6 := hTd.c6
  simp only [List.take_succ_cons, List.take_zero, List.drop_succ_cons, List.drop_zero]
  repeat still_step
  refine wpStill_nil ?_
  go_wp2_with (go_at_call 50; refine (rpush_p hSd hr2 ⟨1, t.col, m.word, false⟩).mono ?_; rintro r w5 ⟨rfl, vs5, hS5, hF5⟩)
  go_ret
  unfold OpR
  rw [HR.out]
  exact ⟨rfl, hS5.x (hFd.trans hF5)⟩
set_option maxRecDepth 100000 in
set_option maxHeartbeats 8000000 in
theorem ropen_a_oth_ge (h : MS w b vs vo m li fi F) (hk : Sz 4 m) (t : Tok) (hx : m.expects = true) (h1 : spT t [123] = false) (hw : m.word.data.toList.isEmpty = false) {i : Nat} {e : REl} (hi : i < m.stack.length) (hxb : rBlk m.stack = (i : Int)) (he : m.stack[i] = e) (hg : getR m.stack (rBlk m.stack) = some e) (hq : (e.form == 1) = false) (hcol : ¬ 0 < t.col) : Calls Try.prog 28 #[.pointer (some ⟨b, 0, none⟩), tokV t] w (OpR w b vs vo m t li fi F) := by
  have hbc : rBegC m.stack = 0 := (rBegC_at hxb hg).trans (by rw [hq]; rfl)
  have HR := Lib.hid (rOpen_col hx h1 (by rw [hw]; rfl) hbc)
  rw [if_neg hcol] at HR
  have hbl := h.lt
  have hE := h.unexp
  have h0 := hE.same (Only.alloc (Only.refl (fun _ => False) _) (.cells (tokA t) 33))
  have t0 := unexp_tb w b t
  have hp0 : Pr ((w.setCell ⟨b, 2, none⟩ (.bool false)).alloc (.cells (tokA t) 33)) b vs vo w.heap.size := h.pr (Nat.le_refl _) (by rw [unexp_sz]; omega)
  have hf0 := unexp_frm w b vs vo t
  have c2 := h.c2
  rw [hx] at c2
  have z2 := h.fz 2
  have t1 : decide (0 < t.col) = false := decide_eq_false hcol
  have hk0 : Rm 0 m := (hk.less (by omega)).rm
  have hk1 : Rm 1 m := (hk.less (by omega)).rm
  have hr0 : Rm 0 (rUn m) := ⟨hk0.els, hk0.out⟩
  have hr1 : Rm 1 (rUn m) := ⟨hk1.els, hk1.out⟩
  have hr2 : Rm 1 (rIns (rUn m) 123) := ⟨hr1.els, by have := hk.rm.out; rw [rIns_len]; show m.out.length + 1 + 1 ≤ _; omega⟩
  have hr3 : Rm 1 (rIns (rIns (rUn m) 123) 125) := ⟨hr1.els, by have := hk.rm.out; rw [rIns_len, rIns_len]; show m.out.length + 1 + 1 + 1 ≤ _; omega⟩
  have H1 := Lib.hid h1
  have HXB : Hid (rBlk (rUn m).stack = (i : Int)) := Lib.hid hxb
  have HT := Lib.hid (Lib.toList_data m.word)
  have hw1 : (m.word.toList == []) = false := by rw [HT.out]; cases hh : m.word.data.toList with
    | nil => rw [hh] at hw; cases hw
    | cons _ _ => rfl
  have hw2 : m.word.toList.isEmpty = false := by rw [HT.out]; exact hw
  obtain ⟨oa, ca, rfl⟩ := h.elen
  obtain ⟨g, hve, hbg, -, hca, -, -⟩ := h.els.at hi
  cases hve
  obtain ⟨n, hn⟩ : ∃ n, m.stack.length = n := ⟨_, rfl⟩
  obtain ⟨f, hf⟩ : ∃ f, e.form = f := ⟨_, rfl⟩
  have HAT : Hid (∀ wx vx, MS wx b (.slice (some ⟨g, 0, none⟩) n ca) vx (rUn m) li fi F → wx.cell? ⟨b, 0, none⟩ = some (.slice (some ⟨g, 0, none⟩) n ca) ∧ wx.cell? ⟨g, i * 4, none⟩ = some (.int .i64 f) ∧ wx.cell? ⟨g, i * 4 + 1, none⟩ = some (.int .i64 e.col)) := Lib.hid (fun wx vx hM => by
    obtain ⟨g', hv', -, -, -, hc', hf'⟩ := hM.els.at (k := i) hi
    cases hv'
    have h9 : (rUn m).stack[i]'hi = e := he
    rw [h9] at hc'
    exact ⟨hM.c0, hf ▸ hc'.c0, hc'.c1⟩)
  rw [hn] at h h0 hp0 hf0 hE hi hca ⊢
  have HN := Lib.hid hn
  rw [hf] at hq
  have hq2 : (f != 1) = true := by simpa [bne] using hq
  have hin : (i : Int) < (n : Int) := by omega
  have hin2 : i < n := hi
  have hw5 : (0 : Int) ≤ (i : Int) := Int.natCast_nonneg i
  have hw6 : (i : Int).toNat = i := Int.toNat_natCast i
  have hw7 : decide ((i : Int) < 0) = false := by simp
  clear hi hn hf he hca
  clear h1 hx hw hxb hg hcol hbc hk0 hk1
  go_enter Try.func28, Try.ntmps28
  go_wp2_with (first | (go_at_call 47; ((with_reducible refine (rspecial_v t [123] _ _ H1.out).mono ?_); rintro r w1 ⟨rfl, hO1⟩; have hS1 := h0.same hO1; have hT1 := t0.same hO1; have hP1 := (hp0.frm (Frm.keep hO1)).1; have hF1 := hf0.trans (Frm.keep hO1); have c3 : w1.cell? ⟨b, 3, none⟩ = some (.string m.word) := hS1.c3; obtain ⟨e0, e1, e2, e3, e4, e5, e6⟩ := hT1.all)) | (go_at_call 49; (refine (rblock_p hS1 hr0).mono ?_); rw [HXB.out]; rintro r w3 ⟨rfl, hw3⟩; subst hw3; obtain ⟨k0, d0, d1⟩ := HAT.out _ _ hS1) | (go_at_call 16; ((with_reducible refine (rinsert_p hS1 hr1 123).mono ?_); rintro r w4 ⟨rfl, vo4, hS4, hF4⟩; have hT4 := TB.frm hT1 hP1 hF4; have hFF4 := hF1.trans hF4; obtain ⟨i0, i1, i2, i3, i4, i5, i6⟩ := hT4.all; have k3 : w4.cell? ⟨b, 3, none⟩ = some (.string m.word) := hS4.c3)) | (go_at_call 16; ((with_reducible refine (rinsert_p hS4 hr2 125).mono ?_); rintro r w5 ⟨rfl, vo5, hS5, hF5⟩; have j3 : w5.cell? ⟨b, 3, none⟩ = some (.string m.word) := hS5.c3)) | (go_at_call 51; refine (wait_p hS5 m.word (fun _ => hr3)).mono ?_; rintro r w6 ⟨rfl, hS6⟩))
  go_ret
  unfold OpR
  rw [HR.out]
  exact ⟨rfl, hS6.frm (hFF4.trans hF5)⟩
end
end Go.Proofs.Ythblchafjmgmbaa
