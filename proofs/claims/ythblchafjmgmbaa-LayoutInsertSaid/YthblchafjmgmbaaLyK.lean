/-
  WALKS. The inserter: line, comma.
-/
import Derived.Test.YthblchafjmgmbaaLyJ
namespace Go.Proofs.Ythblchafjmgmbaa
open Go.RowKit Go.Maps
section
variable {w : World} {b : Nat} {ve vo : Value} {s : St}
/-- What a step that may fail leaves. -/
def StR (w : World) (b : Nat) (ve vo : Value) (R : Option St) (r : Ending) (w' : World) : Prop := match R with
  | none => r = .returned (.bool false) ∧ ∃ ve' vo', Frm w b ve vo w' ve' vo'
  | some s' => r = .returned (.bool true) ∧ ISx w b ve vo s' w'
set_option maxRecDepth 100000 in
set_option maxHeartbeats 4000000 in
theorem line_p (h : IS w b ve vo s) (hk : Ok 1 s) (col : Int) : Calls Try.prog 22 #[.pointer (some ⟨b, 0, none⟩), .int .i64 col] w (StR w b ve vo (lineS (s.els.length + 1) s col)) := by
  go_enter Try.func22, Try.ntmps22
  go_wp2
  go_loopg [] (s.els.length + 1) (fun gk wr => ∃ (s1 : St) (ve1 vo1 : Value), IS wr b ve1 vo1 s1 ∧ Ok 1 s1 ∧ Hid (lineS gk s1 col = lineS (s.els.length + 1) s col) ∧ imp s1.els < gk ∧ Frm w b ve vo wr ve1 vo1)
  case atStart => exact ⟨s, ve, vo, h, hk, Lib.hid rfl, by have := imp_le s.els; omega, Frm.keep (Only.refl _ _)⟩
  case round =>
    obtain ⟨s1, ve1, vo1, hS1, hk1, HL, him, hOr⟩ := hrel
    obtain ⟨k', hk'⟩ : ∃ k', gk = k' + 1 := ⟨gk - 1, by omega⟩
    subst hk'
    have hlt := hk1.bd.last.1
    rcases impl_cases hlt with ⟨hn, -⟩ | ⟨i, e, ha, hi, hkk, hs⟩
    · have HR : Hid (lineS (s.els.length + 1) s col = some s1) := Lib.hid (by rw [← HL.out]; unfold lineS; rw [hn])
      have HN := Lib.hid hn
      clear hn hlt him
      go_wp2_with (go_at_call 35; refine (implicitBlock_no hS1 hk1 HN.out).mono ?_; rintro r w1 ⟨rfl, hO1⟩)
      go_ret
      rw [HR.out]
      exact ⟨rfl, (hS1.same hO1).x (hOr.trans (Frm.keep hO1))⟩
    · obtain ⟨g, ca, rfl, hil, hca, hbg, hc, hf⟩ := hS1.elem hi
      have HA := Lib.hid ha
      have HI := Lib.hid hi
      have HS := Lib.hid hs
      have hok0 : Ok 0 s1 := hk1.less (by omega)
      clear hlt ha hi hs hca hc hf
      have HX : Hid (∀ w', Only (fun _ => False) wr w' → w'.cell? ⟨g, i * 6 + 1, none⟩ = some (.int .i64 e.col)) := Lib.hid (fun w' ho => by
        obtain ⟨g', ca', hve, -, -, -, hc', -⟩ := (hS1.same ho).elem HI.out
        cases hve
        exact hc'.c1)
      by_cases h1 : e.col < col
      · have t1 : decide (e.col < col) = true := decide_eq_true h1
        have HR : Hid (lineS (s.els.length + 1) s col = some s1) := Lib.hid (by rw [← HL.out]; unfold lineS; rw [HS.out]; simp only [h1, if_true])
        clear h1
        go_wp2_with (go_at_call 35; refine (implicitBlock_yes hS1 hk1 HA.out HI.out hkk).mono ?_; rintro r w1 ⟨rfl, hO1⟩; have f1 := HX.out _ hO1)
        go_ret
        rw [HR.out]
        exact ⟨rfl, (hS1.same hO1).x (hOr.trans (Frm.keep hO1))⟩
      · have t1 : decide (e.col < col) = false := decide_eq_false h1
        cases t2 : (col == e.col)
        · cases hcb : closeB s1 (isK 0) with
          | none =>
            have HR : Hid (lineS (s.els.length + 1) s col = none) := Lib.hid (by rw [← HL.out]; unfold lineS; rw [HS.out]; simp only [h1, if_false, t2, hcb, Bool.false_eq_true])
            have HC := Lib.hid hcb
            clear h1 hcb
            go_wp2_with (first | (go_at_call 35; refine (implicitBlock_yes hS1 hk1 HA.out HI.out hkk).mono ?_; rintro r w1 ⟨rfl, hO1⟩; have f1 := HX.out _ hO1; have hS2 := hS1.same hO1) | (go_at_call 39; refine (isOf_p _ _).mono ?_; rintro r w3 ⟨g3, hg3, rfl, hB3, hO3⟩; have hS3 := hS2.same hO3) | (go_at_call 38; refine (closeBlock_p hS3 hk1 hB3).mono ?_; rw [HC.out]; rintro r w4 ⟨rfl, ve4, vo4, hS4, hF4⟩))
            go_ret
            rw [HR.out]
            exact ⟨rfl, _, _, ((hOr.trans (Frm.keep hO1)).trans (Frm.keep hO3)).trans hF4⟩
          | some s2 =>
            have HR : Hid (lineS k' s2 col = lineS (s.els.length + 1) s col) := Lib.hid (by rw [← HL.out]; conv => rhs; unfold lineS; rw [HS.out]; simp only [h1, if_false, t2, hcb, Bool.false_eq_true])
            have hok2 := hk1.closeB hcb
            have him2 := closeB_imp hcb
            have HC := Lib.hid hcb
            clear h1 hcb
            go_wp2_with (first | (go_at_call 35; refine (implicitBlock_yes hS1 hk1 HA.out HI.out hkk).mono ?_; rintro r w1 ⟨rfl, hO1⟩; have f1 := HX.out _ hO1; have hS2 := hS1.same hO1) | (go_at_call 39; refine (isOf_p _ _).mono ?_; rintro r w3 ⟨g3, hg3, rfl, hB3, hO3⟩; have hS3 := hS2.same hO3) | (go_at_call 38; refine (closeBlock_p hS3 hk1 hB3).mono ?_; rw [HC.out]; rintro r w4 ⟨rfl, ve4, vo4, hS4, hF4⟩))
            go_roundg k'
            case rel => exact ⟨s2, ve4, vo4, hS4, hok2, HR, by omega, ((hOr.trans (Frm.keep hO1)).trans (Frm.keep hO3)).trans hF4⟩
            case measure => omega
        · have HR : Hid (lineS (s.els.length + 1) s col = some { insS s1 59 with els := markAt (insS s1 59).els (i : Int) false }) := Lib.hid (by rw [← HL.out]; unfold lineS; rw [HS.out]; simp only [h1, if_false, t2, if_true, HA.out]; rfl)
          clear h1
          go_wp2_with (first | (go_at_call 35; refine (implicitBlock_yes hS1 hk1 HA.out HI.out hkk).mono ?_; rintro r w1 ⟨rfl, hO1⟩; have f1 := HX.out _ hO1; have hS2 := hS1.same hO1) | (go_at_call 26; refine (insert_p hS2 hk1 59).mono ?_; rintro r w3 ⟨rfl, vo3, hS3, hO3, hF3⟩; obtain ⟨g', ca', hve, -, -, -, hc', hf'⟩ := hS3.elem HI.out; cases hve; have f3 := hc'.c3; have y3 := hf' (i * 6 + 3); clear hO3))
          go_ret
          obtain ⟨hM, hbg'⟩ := hS3.markd hil false
          rw [HR.out]
          exact ⟨rfl, hM.x (((hOr.trans (Frm.keep hO1)).trans hF3).trans ⟨Only.setCell (Only.refl _ _) (.inr (.inl rfl)) _, fun _ hg => .inl hg, fun _ hg => .inl hg⟩)⟩
end
end Go.Proofs.Ythblchafjmgmbaa
