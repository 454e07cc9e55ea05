/-
  WALKS. The reference's machine: lines.
-/
import Derived.Test.YthblchafjmgmbaaLzH
namespace Go.Proofs.Ythblchafjmgmbaa
open Go.RowKit Go.Maps
/-- How many blocks are open. -/
def cntB (l : List REl) : Nat := l.countP (fun e => (e.form == 1) || (e.form == 2))
/-- A block is closed at a line's beginning. -/
def rDrop (m : RM) (i : Nat) (e : REl) : RM := rWait { rIns m 125 with stack := m.stack.take i } e.word
theorem lines_less {m : RM} {i : Nat} {e : REl} (hi : i < m.stack.length) (he : m.stack[i] = e) (hf : e.form = 1) :
    cntB (rDrop m i e).stack + 1 ≤ cntB m.stack ∧ (rDrop m i e).stack.length + (rDrop m i e).out.length + cntB (rDrop m i e).stack ≤ m.stack.length + m.out.length + cntB m.stack := by
  have hc : cntB (m.stack.take i) + 1 ≤ cntB m.stack := by
    unfold cntB
    conv => rhs; rw [← List.take_append_drop i m.stack]
    rw [List.countP_append, List.drop_eq_getElem_cons hi, List.countP_cons, he, hf]
    simp
  have hl : (m.stack.take i).length = i := by rw [List.length_take]; omega
  have ho : (rIns m 125).out.length = m.out.length + 1 := by show (m.out ++ _).length = _; simp
  unfold rDrop rWait
  split
  · have e2 : cntB (m.stack.take i ++ [(⟨5, 0, bLetA, false⟩ : REl)]) = cntB (m.stack.take i) := by
      unfold cntB
      rw [List.countP_append]
      simp
    show cntB (m.stack.take i ++ [(⟨5, 0, bLetA, false⟩ : REl)]) + 1 ≤ _ ∧ (m.stack.take i ++ [(⟨5, 0, bLetA, false⟩ : REl)]).length + (rIns m 125).out.length + cntB (m.stack.take i ++ [(⟨5, 0, bLetA, false⟩ : REl)]) ≤ _
    rw [e2, ho, List.length_append, hl, List.length_singleton]
    omega
  · show cntB (m.stack.take i) + 1 ≤ _ ∧ (m.stack.take i).length + (rIns m 125).out.length + cntB (m.stack.take i) ≤ _
    rw [ho, hl]
    omega
section
variable {w w' : World} {b : Nat} {vs vo : Value} {m : RM} {li : Int} {fi : Bool} {F : RF}
theorem MS.tb (h : MS w b vs vo m li fi F) {t : Tok} {w1 : World} {vs1 vo1 : Value} (hF : Frm (w.alloc (.cells (tokA t) 33)) b vs vo w1 vs1 vo1) : TB w1 w.heap.size t := by
  have hlt := h.lt
  refine (hF.only.block w.heap.size (by show _ < (w.heap.push _).size; rw [Array.size_push]; omega) (fun hc => ?_)).trans (new_block _ _)
  rcases hc with hc | hc | hc
  · omega
  · have := (World.ownsRow.lt h.els _ hc).2; omega
  · have := (World.ownsRow.lt h.out _ hc).2; omega
set_option maxRecDepth 100000 in
set_option maxHeartbeats 8000000 in
theorem rlines_p (h : MS w b vs vo m li fi F) (hk : m.stack.length + m.out.length + cntB m.stack + 1 ≤ 1000000000000) (t : Tok) (K : Nat) (hK : cntB m.stack ≤ K) : Calls Try.prog 29 #[.pointer (some ⟨b, 0, none⟩), tokV t] w (ReR w b vs vo li fi F t (rLines K m t.col)) := by
  have hb := h.lt
  have hA : Only (fun _ => False) w (w.alloc (.cells (tokA t) 33)) := (Only.refl _ _).alloc _
  have h0 := h.same hA
  go_enter Try.func29, Try.ntmps29
  go_wp2
  go_loopg [] K (fun gk wr => ∃ (m1 : RM) (vs1 vo1 : Value), MS wr b vs1 vo1 m1 li fi F ∧ Hid (rLines gk m1 t.col = rLines K m t.col) ∧ cntB m1.stack ≤ gk ∧ m1.stack.length + m1.out.length + cntB m1.stack + 1 ≤ 1000000000000 ∧ Frm (w.alloc (.cells (tokA t) 33)) b vs vo wr vs1 vo1)
  case atStart => exact ⟨m, vs, vo, h0, Lib.hid rfl, hK, hk, Frm.keep (Only.refl _ _)⟩
  case round =>
    obtain ⟨m1, vs1, vo1, hS1, HI, hgk, hk1, hF1⟩ := hrel
    have hrm : Rm 0 m1 := ⟨by omega, by omega⟩
    have hTB := h.tb hF1
    have t0 := hTB.c0
    have t1 := hTB.c1
    have t2 := hTB.c2
    have t3 := hTB.c3
    have t4 := hTB.c4
    have t5 := hTB.c5
    have t6 := hTB.c6
    rcases pos_cases (fun e => (e.form == 1) || (e.form == 2)) m1.stack with ⟨hx, hg⟩ | ⟨i, e, hi, hx, he, hg⟩
    · have HX : Hid (rBlk m1.stack = -1) := Lib.hid hx
      have HR : Hid (rLines K m t.col = some m1) := Lib.hid (by rw [← HI.out]; cases gk with | zero => rfl | succ k => unfold rLines rBlk; rw [hg])
      clear hx hg
      go_wp2_with (go_at_call 49; refine (rblock_p hS1 hrm).mono ?_; rw [HX.out]; rintro r w1 ⟨rfl, hw1⟩; subst hw1)
      go_quiet (fail)
      go_wp2
      refine bodyPost_ret (v := .tuple #[]) (by simp [results, Try.results29, go_sem]) rfl ?_
      rw [HR.out]
      exact ⟨rfl, (hS1.same (only_drewN _ _)).x ((Frm.keep hA).trans (hF1.trans (Frm.keep (only_drewN _ _))))⟩
    · have HX : Hid (rBlk m1.stack = (i : Int)) := Lib.hid hx
      have HG : Hid (getR m1.stack (rBlk m1.stack) = some e) := Lib.hid hg
      have hc1 : 1 ≤ cntB m1.stack := by
        have h5 : ((e.form == 1) || (e.form == 2)) = true := by
          rcases lix_spec (fun e : REl => (e.form == 1) || (e.form == 2)) m1.stack.reverse with ⟨h6, -⟩ | ⟨U, e', D, h6, h7, -, h8⟩
          · rw [h6] at hx; omega
          · rw [h8] at hx
            have : m1.stack = D.reverse ++ e' :: U.reverse := by
              have := congrArg List.reverse h6
              simpa using this
            have h9 : m1.stack[i] = e' := by
              have hiD : i = D.reverse.length := by rw [List.length_reverse]; omega
              simp [this, hiD]
            rw [← he, h9]; exact h7
        exact List.countP_pos_iff.mpr ⟨e, he ▸ List.getElem_mem hi, h5⟩
      obtain ⟨gk', rfl⟩ : ∃ k, gk = k + 1 := ⟨gk - 1, by omega⟩
      obtain ⟨oa, ca, rfl⟩ := hS1.elen
      obtain ⟨g, hve, hbg, -, hca, hc, hfz⟩ := hS1.els.at hi
      cases hve
      rw [he] at hc
      have c0 := hS1.c0
      have d0 := hc.c0
      have d1 := hc.c1
      have d2 := hc.c2
      have d3 := hc.c3
      have y3 := hfz (i * 4 + 3)
      obtain ⟨n, hn⟩ : ∃ n, m1.stack.length = n := ⟨_, rfl⟩
      obtain ⟨f, hf⟩ : ∃ f, e.form = f := ⟨_, rfl⟩
      rw [hn] at c0 hca
      rw [hf] at d0
      have HN := Lib.hid hn
      have hin : i < n := by rw [← hn]; exact hi
      have hw2 : (i : Int) < (n : Int) := by omega
      have hw5 : (0 : Int) ≤ (i : Int) := Int.natCast_nonneg i
      have hw6 : (i : Int).toNat = i := Int.toNat_natCast i
      have hw7 : decide ((i : Int) < 0) = false := by simp
      have HU : Hid (rLines K m t.col = if !(f == 1) || decide (e.col < t.col) then some m1 else if t.col == e.col then some { rIns m1 59 with stack := rEq m1.stack (i : Int) false } else if (i : Int) < rWri m1.stack then none else rLines gk' (rDrop m1 i e) t.col) := Lib.hid (by
        rw [← HI.out]
        conv => lhs; unfold rLines
        rw [HG.out, HX.out]
        simp only [hf, Int.toNat_natCast]
        rfl)
      cases hq : (f == 1)
      · have HR : Hid (rLines K m t.col = some m1) := Lib.hid (by rw [HU.out, hq]; rfl)
        have hq2 : (f != 1) = true := by simpa using hq
        clear hn hx hg he hc hfz hf hi HU
        go_wp2_with (go_at_call 49; refine (rblock_p hS1 hrm).mono ?_; rw [HX.out]; rintro r w1 ⟨rfl, hw1⟩; subst hw1)
        go_quiet (fail)
        go_wp2
        refine bodyPost_ret (v := .tuple #[]) (by simp [results, Try.results29, go_sem]) rfl ?_
        rw [HR.out]
        exact ⟨rfl, (hS1.same (only_drewN _ _)).x ((Frm.keep hA).trans (hF1.trans (Frm.keep (only_drewN _ _))))⟩
      · have hq2 : (f != 1) = false := by simpa using hq
        cases hgt : decide (e.col < t.col)
        case true =>
          have HR : Hid (rLines K m t.col = some m1) := Lib.hid (by rw [HU.out, hq, hgt]; rfl)
          have hgt2 : e.col < t.col := of_decide_eq_true hgt
          clear hn hx hg he hc hfz hf hi HU
          go_wp2_with (go_at_call 49; refine (rblock_p hS1 hrm).mono ?_; rw [HX.out]; rintro r w1 ⟨rfl, hw1⟩; subst hw1)
          go_quiet (fail)
          go_wp2
          refine bodyPost_ret (v := .tuple #[]) (by simp [results, Try.results29, go_sem]) rfl ?_
          rw [HR.out]
          exact ⟨rfl, (hS1.same (only_drewN _ _)).x ((Frm.keep hA).trans (hF1.trans (Frm.keep (only_drewN _ _))))⟩
        have hgt2 : ¬ e.col < t.col := of_decide_eq_false hgt
        have hrm1 : Rm 1 m1 := ⟨by omega, by omega⟩
        have HAT := Lib.hid (show ∀ wx vx mx, MS wx b (.slice (some ⟨g, 0, none⟩) m1.stack.length ca) vx mx li fi F → mx.stack = m1.stack → wx.cell? ⟨b, 0, none⟩ = some (.slice (some ⟨g, 0, none⟩) n ca) ∧ RC wx g (i * 4) e ∧ wx.frozen? ⟨g, i * 4 + 3, none⟩ = false from fun wx vx mx hM hmx => by
          have h1 := hM.c0
          rw [hn] at h1
          obtain ⟨g', hv', -, -, -, hc', hf'⟩ := hM.els.at (k := i) (by rw [hmx]; exact hi)
          cases hv'
          have h9 : mx.stack[i]'(by rw [hmx]; exact hi) = e := by rw [← he]; congr 1
          rw [h9] at hc'
          exact ⟨h1, hc', hf' _⟩)
        cases hec : (t.col == e.col)
        case true =>
          have HR : Hid (rLines K m t.col = some { rIns m1 59 with stack := rEq m1.stack (i : Int) false }) := Lib.hid (by rw [HU.out, hq, hgt, hec]; rfl)
          have hii : i < m1.stack.length := hi
          have HII := Lib.hid hii
          clear hn hx hg he hc hfz hf hi HU hii d2 d3 y3
          go_wp2_with (go_at_call 49; refine (rblock_p hS1 hrm).mono ?_; rw [HX.out]; rintro r w1 ⟨rfl, hw1⟩; subst hw1)
          go_quiet (fail)
          go_wp2
          go_quiet (fail)
          go_wp2_with (go_at_call 16; refine (rinsert_p (hS1.same (only_drewN _ _)) hrm1 59).mono ?_; rintro r w2 ⟨rfl, vo2, hS2, hF2⟩; obtain ⟨e0, eC, ey⟩ := HAT.out _ _ _ hS2 rfl; have e3 := eC.c3)
          refine bodyPost_ret (v := .tuple #[]) (by simp [results, Try.results29, go_sem]) rfl ?_
          rw [HR.out]
          exact ⟨rfl, (MS.markd (m := rIns m1 59) hS2 HII.out false).x ((Frm.keep hA).trans (hF1.trans ((Frm.keep (only_drewN _ _)).trans (hF2.trans ⟨Only.setCell (Only.refl _ _) (.inr (.inl rfl)) _, fun _ hg => .inl hg, fun _ hg => .inl hg⟩))))⟩
        obtain ⟨x, hwx⟩ : ∃ x, rWri m1.stack = x := ⟨_, rfl⟩
        have HWX := Lib.hid hwx
        by_cases hxi : (i : Int) < x
        · have HR : Hid (rLines K m t.col = none) := Lib.hid (by rw [HU.out, hq, hgt, hec, hwx]; simp [hxi])
          clear hn hx hg he hc hfz hf hi HU hwx d2 d3 y3
          go_wp2_with (go_at_call 49; refine (rblock_p hS1 hrm).mono ?_; rw [HX.out]; rintro r w1 ⟨rfl, hw1⟩; subst hw1)
          go_quiet (fail)
          go_wp2
          go_quiet (fail)
          go_wp2_with (first | (go_at_call 52; refine (rwri_p (hS1.same (only_drewN _ _)) hrm).mono ?_; rw [HWX.out]; rintro r w2 ⟨rfl, hw2⟩; subst hw2) | (go_at_call 17; refine (fails_p (hS1.same (only_drewN _ _)) t).mono ?_; rintro r w3 ⟨rfl, hS3, hO3⟩))
          refine bodyPost_ret (v := .tuple #[]) (by simp [results, Try.results29, go_sem]) rfl ?_
          rw [HR.out]
          exact ⟨rfl, m1, hrm1.out, hS3.x ((Frm.keep hA).trans (hF1.trans ((Frm.keep (only_drewN _ _)).trans (Frm.here hO3 rfl))))⟩
        · have HR : Hid (rLines K m t.col = rLines gk' (rDrop m1 i e) t.col) := Lib.hid (by rw [HU.out, hq, hgt, hec, hwx]; simp [hxi])
          obtain ⟨hl1, hl2⟩ := lines_less hi he (by rw [hf]; simpa using hq)
          have hLL := Lib.hid hi
          have hzm : Rm 1 { rIns m1 125 with stack := m1.stack.take i } := ⟨by show (m1.stack.take i).length + 1 ≤ _; rw [List.length_take]; omega, by show (m1.out ++ _).length + 1 ≤ _; rw [List.length_append, List.length_singleton]; omega⟩
          clear hn hx hg he hc hfz hf hi HU hwx d3 y3
          go_wp2_with (go_at_call 49; refine (rblock_p hS1 hrm).mono ?_; rw [HX.out]; rintro r w1 ⟨rfl, hw1⟩; subst hw1)
          go_quiet (fail)
          go_wp2
          go_quiet (fail)
          go_wp2_with (first | (go_at_call 52; refine (rwri_p (hS1.same (only_drewN _ _)) hrm).mono ?_; rw [HWX.out]; rintro r w2 ⟨rfl, hw2⟩; subst hw2) | (go_at_call 16; refine (rinsert_p (hS1.same (only_drewN _ _)) hrm1 125).mono ?_; rintro r w3 ⟨rfl, vo3, hS3, hF3⟩; obtain ⟨e0, eC, ey⟩ := HAT.out _ _ _ hS3 rfl; have z0 := hS3.fz 0; have HRR := Lib.hid (RR.cut hS3.els (k := i) hLL.out)) | (go_at_call 51; refine (wait_p (MS.put (m := rIns m1 125) (m' := { rIns m1 125 with stack := m1.stack.take i }) (k := 0) hS3.blk rfl HRR.out hS3.out) e.word (fun _ => hzm)).mono ?_; rintro r w4 ⟨rfl, vs4, vo4, hS4, hF4⟩))
          go_roundg gk'
          case rel => exact ⟨rDrop m1 i e, vs4, vo4, hS4, Lib.hid HR.out.symm, by omega, by omega, hF1.trans ((Frm.keep (only_drewN _ _)).trans (hF3.trans ((Frm.here (ve := .slice (some ⟨g, 0, none⟩) m1.stack.length ca) (ve' := .slice (some ⟨g, 0, none⟩) i ca) (Only.setCell (K := (· = b)) (Only.refl _ _) rfl _) rfl).trans hF4)))⟩
          case measure => omega
end
end Go.Proofs.Ythblchafjmgmbaa
