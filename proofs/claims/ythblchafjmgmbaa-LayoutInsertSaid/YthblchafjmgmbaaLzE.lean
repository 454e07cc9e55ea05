/-
  WALKS. The reference's machine: comma.
-/
import Derived.Test.YthblchafjmgmbaaLzD
namespace Go.Proofs.Ythblchafjmgmbaa
open Go.RowKit Go.Maps
/-- How many contexts are open. -/
def cnt (l : List REl) : Nat := l.countP (fun e => !(e.form == 5))
theorem cnt_le (l : List REl) : cnt l ≤ l.length := List.countP_le_length
theorem comma_less {m : RM} {i : Nat} {e : REl} (hi : i < m.stack.length) (he : m.stack[i] = e) (hf : e.form = 1) :
    cnt (rWait (rCut m ((i : Int) - 1)) e.word).stack + 1 ≤ cnt m.stack ∧ (rWait (rCut m ((i : Int) - 1)) e.word).stack.length + (rWait (rCut m ((i : Int) - 1)) e.word).out.length + cnt (rWait (rCut m ((i : Int) - 1)) e.word).stack ≤ m.stack.length + m.out.length + cnt m.stack := by
  have hs := rCut_size m ((i : Int) - 1)
  have e1 : (rCut m ((i : Int) - 1)).stack = m.stack.take i := by
    show m.stack.take _ = _
    rw [show ((i : Int) - 1 + 1).toNat = i by omega]
  have hc : cnt (rCut m ((i : Int) - 1)).stack + 1 ≤ cnt m.stack := by
    rw [e1]
    unfold cnt
    conv => rhs; rw [← List.take_append_drop i m.stack]
    rw [List.countP_append, List.drop_eq_getElem_cons hi, List.countP_cons, he, hf]
    simp
  unfold rWait
  split
  · have e2 : cnt (rPush (rCut m ((i : Int) - 1)) ⟨5, 0, bLetA, false⟩).stack = cnt (rCut m ((i : Int) - 1)).stack := by
      show cnt ((rCut m ((i : Int) - 1)).stack ++ _) = _
      unfold cnt
      rw [List.countP_append]
      simp
    have e3 : (rPush (rCut m ((i : Int) - 1)) ⟨5, 0, bLetA, false⟩).stack.length = (rCut m ((i : Int) - 1)).stack.length + 1 := by
      show ((rCut m ((i : Int) - 1)).stack ++ _).length = _
      simp
    have e4 : (rPush (rCut m ((i : Int) - 1)) ⟨5, 0, bLetA, false⟩).out = (rCut m ((i : Int) - 1)).out := rfl
    rw [e2, e3, e4]
    omega
  · omega
section
variable {w w' : World} {b : Nat} {vs vo : Value} {m : RM} {li : Int} {fi : Bool} {F : RF}
set_option maxRecDepth 100000 in
set_option maxHeartbeats 8000000 in
theorem rcomma_p (h : MS w b vs vo m li fi F) (hk : m.stack.length + m.out.length + cnt m.stack + 1 ≤ 1000000000000) (K : Nat) (hK : cnt m.stack ≤ K) : Calls Try.prog 55 #[.pointer (some ⟨b, 0, none⟩)] w fun r w' => r = .returned (.tuple #[]) ∧ MSx w b vs vo (rComma K m) li fi F w' := by
  go_enter Try.func55, Try.ntmps55
  go_wp2
  go_loopg [] K (fun gk wr => ∃ (m1 : RM) (vs1 vo1 : Value), MS wr b vs1 vo1 m1 li fi F ∧ Hid (rComma gk m1 = rComma K m) ∧ cnt m1.stack ≤ gk ∧ m1.stack.length + m1.out.length + cnt m1.stack + 1 ≤ 1000000000000 ∧ Frm w b vs vo wr vs1 vo1)
  case atStart => exact ⟨m, vs, vo, h, Lib.hid rfl, hK, hk, Frm.keep (Only.refl _ _)⟩
  case round =>
    obtain ⟨m1, vs1, vo1, hS1, HI, hgk, hk1, hF1⟩ := hrel
    have hrm : Rm 0 m1 := ⟨by omega, by omega⟩
    rcases pos_cases (fun e => !(e.form == 5)) m1.stack with ⟨hx, hg⟩ | ⟨i, e, hi, hx, he, hg⟩
    · have HX : Hid (rCtx m1.stack = -1) := Lib.hid hx
      have HR : Hid (rComma K m = m1) := Lib.hid (by rw [← HI.out]; cases gk with | zero => rfl | succ k => unfold rComma rCtx; rw [hg])
      clear hx hg
      go_wp2_with (go_at_call 53; refine (rctx_p hS1 hrm).mono ?_; rw [HX.out]; rintro r w1 ⟨rfl, hw1⟩; subst hw1)
      refine bodyPost_ret (v := .tuple #[]) (by simp [results, Try.results55, go_sem]) rfl ?_
      exact ⟨rfl, by rw [HR.out]; exact ⟨_, _, hS1, hF1⟩⟩
    · have HX : Hid (rCtx m1.stack = (i : Int)) := Lib.hid hx
      have HG : Hid (getR m1.stack (rCtx m1.stack) = some e) := Lib.hid hg
      have hc1 : 1 ≤ cnt m1.stack := by
        have h5 : (!(e.form == 5)) = true := by
          rcases lix_spec (fun e : REl => !(e.form == 5)) m1.stack.reverse with ⟨h6, -⟩ | ⟨U, e', D, h6, h7, -, h8⟩
          · rw [h6] at hx; omega
          · rw [h8] at hx
            have : m1.stack = D.reverse ++ e' :: U.reverse := by
              have := congrArg List.reverse h6
              simpa using this
            have h9 : m1.stack[i] = e' := by
              have hiD : i = D.reverse.length := by rw [List.length_reverse]; omega
              simp [this, hiD]
            rw [← he, h9]; exact h7
        exact List.countP_pos_iff.mpr ⟨e, he ▸ List.getElem_mem hi, h5⟩
      obtain ⟨gk', rfl⟩ : ∃ k, gk = k + 1 := ⟨gk - 1, by omega⟩
      obtain ⟨oa, ca, rfl⟩ := hS1.elen
      obtain ⟨g, hve, hbg, -, hca, hc, hfz⟩ := hS1.els.at hi
      cases hve
      rw [he] at hc
      have c0 := hS1.c0
      have d0 := hc.c0
      have d2 := hc.c2
      have d3 := hc.c3
      obtain ⟨n, hn⟩ : ∃ n, m1.stack.length = n := ⟨_, rfl⟩
      obtain ⟨f, hf⟩ : ∃ f, e.form = f := ⟨_, rfl⟩
      rw [hn] at c0 hca
      rw [hf] at d0
      have HN := Lib.hid hn
      have hin : i < n := by rw [← hn]; exact hi
      have HU : Hid (rComma K m = if !(f == 1) || decide (rWri m1.stack < 0) then m1 else if tx e.word bDo || tx e.word bOf || e.eq then rComma gk' (rWait (rCut m1 ((i : Int) - 1)) e.word) else m1) := Lib.hid (by
        rw [← HI.out]
        conv => lhs; unfold rComma
        rw [HG.out, HX.out]
        simp only [hf])
      cases hq : (f == 1)
      · have HR : Hid (rComma K m = m1) := Lib.hid (by rw [HU.out, hq]; rfl)
        have hq2 : (f != 1) = true := by simpa using hq
        clear hn hx hg he hc hfz hf hi HU
        go_wp2_with (go_at_call 53; refine (rctx_p hS1 hrm).mono ?_; rw [HX.out]; rintro r w1 ⟨rfl, hw1⟩; subst hw1)
        refine bodyPost_ret (v := .tuple #[]) (by simp [results, Try.results55, go_sem]) rfl ?_
        exact ⟨rfl, by rw [HR.out]; exact ⟨_, _, hS1, hF1⟩⟩
      · have hq2 : (f != 1) = false := by simpa using hq
        rcases pos_cases (fun e => !((e.form == 5) || (e.form == 1))) m1.stack with ⟨hy, -⟩ | ⟨j, -, -, hy, -, -⟩
        · have HY : Hid (rWri m1.stack = -1) := Lib.hid hy
          have HR : Hid (rComma K m = m1) := Lib.hid (by rw [HU.out, HY.out, hq]; rfl)
          clear hn hx hg he hc hfz hf hi HU hy
          go_wp2_with (first | (go_at_call 53; refine (rctx_p hS1 hrm).mono ?_; rw [HX.out]; rintro r w1 ⟨rfl, hw1⟩; subst hw1) | (go_at_call 52; refine (rwri_p hS1 hrm).mono ?_; rw [HY.out]; rintro r w2 ⟨rfl, hw2⟩; subst hw2))
          refine bodyPost_ret (v := .tuple #[]) (by simp [results, Try.results55, go_sem]) rfl ?_
          exact ⟨rfl, by rw [HR.out]; exact ⟨_, _, hS1, hF1⟩⟩
        · have HY : Hid (rWri m1.stack = (j : Int)) := Lib.hid hy
          have hj0 : decide ((j : Int) < 0) = false := by simp
          have HV : Hid (rComma K m = if tx e.word bDo || tx e.word bOf || e.eq then rComma gk' (rWait (rCut m1 ((i : Int) - 1)) e.word) else m1) := Lib.hid (by rw [HU.out, HY.out, hq, hj0]; rfl)
          have hki : m1.stack.length + m1.out.length + 1 ≤ 1000000000000 := by omega
          have hiz : (i : Int) - 1 ≤ 1000000000000 := by omega
          have hwi : IntKind.i64.wrap ((i : Int) - 1) = (i : Int) - 1 := IntWalk.i64_in _ (by omega)
          have hj1 : ¬ ((j : Int) < 0) := by omega
          have hfe : e.form = 1 := by rw [hf]; simpa using hq
          obtain ⟨hl1, hl2⟩ := comma_less hi he hfe
          have hzm : Rm 1 (rCut m1 ((i : Int) - 1)) := by
            have := rCut_size m1 ((i : Int) - 1)
            exact ⟨by omega, by omega⟩
          cases h1 : tx e.word bDo
          · cases h2 : tx e.word bOf
            · cases h3 : e.eq
              · have HR : Hid (rComma K m = m1) := Lib.hid (by rw [HV.out, h1, h2, h3]; rfl)
                have b1 : (e.word.toList == [100, 111]) = false := by rw [Lib.toList_data]; exact h1
                have b2 : (e.word.toList == [111, 102]) = false := by rw [Lib.toList_data]; exact h2
                rw [h3] at d3
                clear hn hx hg he hc hfz hf hi HU hy HV h1 h2 h3 hl1 hl2
                go_wp2_with (first | (go_at_call 53; refine (rctx_p hS1 hrm).mono ?_; rw [HX.out]; rintro r w1 ⟨rfl, hw1⟩; subst hw1) | (go_at_call 52; refine (rwri_p hS1 hrm).mono ?_; rw [HY.out]; rintro r w2 ⟨rfl, hw2⟩; subst hw2))
                refine bodyPost_ret (v := .tuple #[]) (by simp [results, Try.results55, go_sem]) rfl ?_
                exact ⟨rfl, by rw [HR.out]; exact ⟨_, _, hS1, hF1⟩⟩
              · rw [h3] at d3
                have b1 : (e.word.toList == [100, 111]) = false := by rw [Lib.toList_data]; exact h1
                have b2 : (e.word.toList == [111, 102]) = false := by rw [Lib.toList_data]; exact h2
                have HR : Hid (rComma K m = rComma gk' (rWait (rCut m1 ((i : Int) - 1)) e.word)) := Lib.hid (by rw [HV.out]; simp [h1, h2, h3])
                clear hn hx hg he hc hfz hf hi HU hy HV h1 h2 h3
                go_wp2_with (first | (go_at_call 53; refine (rctx_p hS1 hrm).mono ?_; rw [HX.out]; rintro r w1 ⟨rfl, hw1⟩; subst hw1) | (go_at_call 52; refine (rwri_p hS1 hrm).mono ?_; rw [HY.out]; rintro r w2 ⟨rfl, hw2⟩; subst hw2) | (go_at_call 18; refine (rcut_p hS1 hki ((i : Int) - 1) (by omega) hiz).mono ?_; rintro r w3 ⟨rfl, vs3, vo3, hS3, hF3⟩) | (go_at_call 51; refine (wait_p hS3 e.word (fun _ => hzm)).mono ?_; rintro r w4 ⟨rfl, vs4, vo4, hS4, hF4⟩))
                go_roundg gk'
                case rel => exact ⟨_, vs4, vo4, hS4, Lib.hid HR.out.symm, by omega, by omega, hF1.trans (hF3.trans hF4)⟩
                case measure => omega
            · skip
              have b1 : (e.word.toList == [100, 111]) = false := by rw [Lib.toList_data]; exact h1
              have b2 : (e.word.toList == [111, 102]) = true := by rw [Lib.toList_data]; exact h2
              have HR : Hid (rComma K m = rComma gk' (rWait (rCut m1 ((i : Int) - 1)) e.word)) := Lib.hid (by rw [HV.out]; simp [h1, h2])
              clear hn hx hg he hc hfz hf hi HU hy HV h1 h2
              go_wp2_with (first | (go_at_call 53; refine (rctx_p hS1 hrm).mono ?_; rw [HX.out]; rintro r w1 ⟨rfl, hw1⟩; subst hw1) | (go_at_call 52; refine (rwri_p hS1 hrm).mono ?_; rw [HY.out]; rintro r w2 ⟨rfl, hw2⟩; subst hw2) | (go_at_call 18; refine (rcut_p hS1 hki ((i : Int) - 1) (by omega) hiz).mono ?_; rintro r w3 ⟨rfl, vs3, vo3, hS3, hF3⟩) | (go_at_call 51; refine (wait_p hS3 e.word (fun _ => hzm)).mono ?_; rintro r w4 ⟨rfl, vs4, vo4, hS4, hF4⟩))
              go_roundg gk'
              case rel => exact ⟨_, vs4, vo4, hS4, Lib.hid HR.out.symm, by omega, by omega, hF1.trans (hF3.trans hF4)⟩
              case measure => omega
          · skip
            have b1 : (e.word.toList == [100, 111]) = true := by rw [Lib.toList_data]; exact h1
            have HR : Hid (rComma K m = rComma gk' (rWait (rCut m1 ((i : Int) - 1)) e.word)) := Lib.hid (by rw [HV.out]; simp [h1])
            clear hn hx hg he hc hfz hf hi HU hy HV h1
            go_wp2_with (first | (go_at_call 53; refine (rctx_p hS1 hrm).mono ?_; rw [HX.out]; rintro r w1 ⟨rfl, hw1⟩; subst hw1) | (go_at_call 52; refine (rwri_p hS1 hrm).mono ?_; rw [HY.out]; rintro r w2 ⟨rfl, hw2⟩; subst hw2) | (go_at_call 18; refine (rcut_p hS1 hki ((i : Int) - 1) (by omega) hiz).mono ?_; rintro r w3 ⟨rfl, vs3, vo3, hS3, hF3⟩) | (go_at_call 51; refine (wait_p hS3 e.word (fun _ => hzm)).mono ?_; rintro r w4 ⟨rfl, vs4, vo4, hS4, hF4⟩))
            go_roundg gk'
            case rel => exact ⟨_, vs4, vo4, hS4, Lib.hid HR.out.symm, by omega, by omega, hF1.trans (hF3.trans hF4)⟩
            case measure => omega
end
end Go.Proofs.Ythblchafjmgmbaa
