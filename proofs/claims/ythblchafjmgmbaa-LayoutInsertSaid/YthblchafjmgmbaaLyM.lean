/-
  WALKS. The inserter: comma.
-/
import Derived.Test.YthblchafjmgmbaaLyL
namespace Go.Proofs.Ythblchafjmgmbaa
open Go.RowKit Go.Maps
section
variable {w : World} {b : Nat} {ve vo : Value} {s : St}
theorem comma1_v (e : El) (v : Bool) (w : World) (hv : closesE e = v) : Calls Try.prog 65 #[elV e] w fun r w' => r = .returned (.bool v) ∧ Only (fun _ => False) w w' := hv ▸ comma1_p e w
set_option maxRecDepth 100000 in
set_option maxHeartbeats 4000000 in
theorem comma_p (h : IS w b ve vo s) {k : Nat} (hk : Ok k s) : Calls Try.prog 42 #[.pointer (some ⟨b, 0, none⟩)] w fun r w' => r = .returned (.tuple #[]) ∧ ISx w b ve vo (commaS (2 * s.els.length + 2) s) w' := by
  go_enter Try.func42, Try.ntmps42
  go_wp2
  go_loopg [] (2 * s.els.length + 2) (fun gk wr => ∃ (s1 : St) (ve1 vo1 : Value), IS wr b ve1 vo1 s1 ∧ Ok k s1 ∧ Hid (commaS gk s1 = commaS (2 * s.els.length + 2) s) ∧ imp s1.els < gk ∧ Frm w b ve vo wr ve1 vo1)
  case atStart => exact ⟨s, ve, vo, h, hk, Lib.hid rfl, by have := imp_le s.els; omega, Frm.keep (Only.refl _ _)⟩
  case round =>
    obtain ⟨s1, ve1, vo1, hS1, hk1, HL, him, hOr⟩ := hrel
    obtain ⟨k', hk'⟩ : ∃ k', gk = k' + 1 := ⟨gk - 1, by omega⟩
    subst hk'
    have hlt := hk1.bd.last.2
    have c1 := hS1.c1
    by_cases hw : 0 < s1.written
    · have t1 : decide (0 < s1.written) = true := decide_eq_true hw
      rcases impl_cases hlt with ⟨hn, -⟩ | ⟨i, e, ha, hi, hkk, hs⟩
      · have HR : Hid (commaS (2 * s.els.length + 2) s = s1) := Lib.hid (by rw [← HL.out]; unfold commaS; rw [if_pos hw, hn])
        have HN := Lib.hid hn
        clear hn hlt him hw
        go_wp2_with (go_at_call 64; refine (implicitContext_no hS1 hk1 HN.out).mono ?_; rintro r w1 ⟨rfl, hO1⟩)
        refine bodyPost_ret (v := .tuple #[]) (by simp [results, Try.results42, go_sem]) rfl ⟨rfl, by rw [HR.out]; exact (hS1.same hO1).x (hOr.trans (Frm.keep hO1))⟩
      · obtain ⟨g, ca, rfl, hil, hca, hbg, hc, hf⟩ := hS1.elem hi
        obtain ⟨s2, hcb⟩ := comma_some hk1 hs
        have HA := Lib.hid ha
        have HI := Lib.hid hi
        have HS := Lib.hid hs
        clear hlt ha hi hs hca hc hf
        have HX : Hid (∀ w', Only (fun _ => False) wr w' → EC w' g (i * 6) e) := Lib.hid (fun w' ho => by
          obtain ⟨g', ca', hve, -, -, -, hc', -⟩ := (hS1.same ho).elem HI.out
          cases hve
          exact hc')
        have hok2 := hk1.closeB hcb
        have him2 := closeB_imp hcb
        cases hc : closesE e
        · have HR : Hid (commaS (2 * s.els.length + 2) s = s1) := Lib.hid (by rw [← HL.out]; unfold commaS; rw [if_pos hw, HS.out]; simp only; rw [if_neg]; unfold closesE at hc; rw [hc]; exact Bool.false_ne_true)
          have HC := Lib.hid hc
          clear hc hw hcb
          go_wp2_with (first | (go_at_call 64; refine (implicitContext_yes hS1 hk1 HA.out HI.out hkk).mono ?_; rintro r w1 ⟨rfl, hO1⟩; obtain ⟨d0, d1, d2, d3, d4, d5⟩ := HX.out _ hO1) | (go_at_call 65; refine (comma1_v e _ _ HC.out).mono ?_; rintro r w2 ⟨rfl, hO2⟩))
          refine bodyPost_ret (v := .tuple #[]) (by simp [results, Try.results42, go_sem]) rfl ⟨rfl, by rw [HR.out]; exact ((hS1.same hO1).same hO2).x ((hOr.trans (Frm.keep hO1)).trans (Frm.keep hO2))⟩
        · have HR : Hid (commaS k' s2 = commaS (2 * s.els.length + 2) s) := Lib.hid (by
            rw [← HL.out]
            conv => rhs; unfold commaS
            rw [if_pos hw, HS.out]
            simp only
            rw [if_pos (by unfold closesE at hc; exact hc), hcb]
            rfl)
          have HC := Lib.hid hc
          have HB := Lib.hid hcb
          clear hc hw hcb
          go_wp2_with (first | (go_at_call 64; refine (implicitContext_yes hS1 hk1 HA.out HI.out hkk).mono ?_; rintro r w1 ⟨rfl, hO1⟩; obtain ⟨d0, d1, d2, d3, d4, d5⟩ := HX.out _ hO1) | (go_at_call 65; refine (comma1_v e _ _ HC.out).mono ?_; rintro r w2 ⟨rfl, hO2⟩; have hS2 := (hS1.same hO1).same hO2) | (go_at_call 39; refine (isOf_p _ _).mono ?_; rintro r w3 ⟨g3, hg3, rfl, hB3, hO3⟩; have hS3 := hS2.same hO3) | (go_at_call 38; refine (closeBlock_p hS3 hk1 hB3).mono ?_; rw [HB.out]; rintro r w4 ⟨rfl, ve4, vo4, hS4, hF4⟩))
          go_roundg k'
          case rel => exact ⟨s2, ve4, vo4, hS4, hok2, HR, by omega, (((hOr.trans (Frm.keep hO1)).trans (Frm.keep hO2)).trans (Frm.keep hO3)).trans hF4⟩
          case measure => omega
    · have t1 : decide (0 < s1.written) = false := decide_eq_false hw
      have HR : Hid (commaS (2 * s.els.length + 2) s = s1) := Lib.hid (by rw [← HL.out]; unfold commaS; rw [if_neg hw])
      clear hw hlt him
      go_wp2
      go_end0
      exact ⟨rfl, by rw [HR.out]; exact hS1.x hOr⟩
end
end Go.Proofs.Ythblchafjmgmbaa
