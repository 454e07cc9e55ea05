/-
  WALKS. The stack: dropPending.
-/
import Derived.Test.YthblchafjmgmbaaLyJ
import Derived.Deep.QuietTactic
import Derived.BigQuiet
import Derived.IntWalk
namespace Go.Proofs.Ythblchafjmgmbaa
open Go.RowKit Go.Maps
theorem only_drewN {K : Nat → Prop} (w : World) (n : Nat) : Only K w (w.drewN n) := ⟨rfl, rfl, rfl, Nat.le_refl _, fun _ _ _ => rfl⟩
theorem isPending_v (k : Int) (v : Bool) (w : World) (hv : isPen k = v) : Calls Try.prog 63 #[.int .i64 k] w fun e w' => e = .returned (.bool v) ∧ w = w' := hv ▸ isPending_p k w
section
variable {w : World} {b : Nat} {ve vo : Value} {s : St}
theorem dropP_snoc (ys : List El) (y : El) : dropP (ys ++ [y]) = if isPen y.kind then dropP ys else ys ++ [y] := by
  unfold dropP
  rw [List.reverse_append]
  show ((y :: ys.reverse).dropWhile _).reverse = _
  rw [List.dropWhile_cons]
  split
  · rfl
  · simp
set_option maxRecDepth 100000 in
set_option maxHeartbeats 4000000 in
theorem dropPending_p (h : IS w b ve vo s) {k : Nat} (hk : Ok k s) : Calls Try.prog 40 #[.pointer (some ⟨b, 0, none⟩)] w fun r w' => r = .returned (.tuple #[]) ∧ ISx w b ve vo { s with els := dropP s.els } w' := by
  go_enter Try.func40, Try.ntmps40
  go_wp2
  go_loopg [] (s.els.length) (fun gk wr => ∃ (s1 : St) (ve1 : Value), IS wr b ve1 vo s1 ∧ Ok k s1 ∧ Hid (({ s1 with els := dropP s1.els } : St) = { s with els := dropP s.els }) ∧ s1.els.length = gk ∧ Frm w b ve vo wr ve1 vo)
  case atStart => exact ⟨s, ve, h, hk, Lib.hid rfl, rfl, Frm.keep (Only.refl _ _)⟩
  case round =>
    obtain ⟨s1, ve1, hS1, hk1, HD, hgk, hOr⟩ := hrel
    have hz := hk1.els_le
    rcases top_cases s1.els with hs | ⟨ys, y, hs⟩
    · obtain ⟨oa, ca, rfl⟩ := hS1.empty hs
      have c0 := hS1.c0
      have HR : Hid (({ s with els := dropP s.els } : St) = s1) := Lib.hid (by rw [← HD.out, hs]; cases s1; cases hs; rfl)
      clear hs hz hgk
      go_wp2
      go_quiet (fail)
      all_goals
        go_wp2
        go_end0
        exact ⟨rfl, by rw [HR.out]; exact (hS1.same (only_drewN _ _)).x (hOr.trans (Frm.keep (only_drewN _ _)))⟩
    · obtain ⟨g, ca, rfl, hca, hbg, hc, hf⟩ := hS1.top hs
      have c0 := hS1.c0
      have d0 := hc.c0
      have hlen : ys.length + 1 = gk := by rw [← hgk, hs]; simp
      have hz' : ys.length + 1 ≤ 1000000000000 := by rw [hs] at hz; simp at hz; omega
      have HS := Lib.hid hs
      obtain ⟨m, hm⟩ : ∃ m, ys.length = m := ⟨_, rfl⟩
      rw [hm] at c0 d0 hca hlen hz'
      have HM := Lib.hid hm
      have HG := Lib.hid hlen
      clear hs hm hgk hz hc hf hlen
      cases hp : isPen y.kind
      · have HR : Hid (({ s with els := dropP s.els } : St) = s1) := Lib.hid (by rw [← HD.out, HS.out, dropP_snoc, hp]; simp only [Bool.false_eq_true, if_false, ← HS.out])
        have HP := Lib.hid hp
        clear hp
        have hwm : IntKind.i64.wrap (m : Int) = (m : Int) := IntWalk.i64_in _ (by omega)
        have hw2 : (m : Int) < (m : Int) + 1 := by omega
        have hw3 : m < m + 1 := Nat.lt_succ_self m
        have hw4 : (m : Int) ≤ (m : Int) := Int.le_refl _
        have hw5 : (0 : Int) ≤ (m : Int) := Int.natCast_nonneg m
        have hw6 : (m : Int).toNat = m := Int.toNat_natCast m
        go_wp2
        go_quiet ((go_at_call 63; exact Calls.quiet_of_same ((isPending_v _ _ _ HP.out).mono fun _ _ h => ⟨h.1, h.2.symm⟩)))
        all_goals
          clear hwm hw2 hw3 hw4 hw5 hw6
          go_wp2
          go_end0
          exact ⟨rfl, by rw [HR.out]; exact (hS1.same (only_drewN _ _)).x (hOr.trans (Frm.keep (only_drewN _ _)))⟩
      · have hpop : popS s1 y = { s1 with els := s1.els.dropLast } := by
          unfold popS
          have : isWri y.kind = false := by unfold isPen at hp; unfold isWri isCtx; simp at hp ⊢; omega
          rw [this]; rfl
        have HQ : Hid (({ popS s1 y with els := dropP (popS s1 y).els } : St) = { s with els := dropP s.els }) := Lib.hid (by
          rw [← HD.out, hpop, HS.out, List.dropLast_concat, dropP_snoc, hp]; rfl)
        have HL : Hid ((popS s1 y).els.length = m) := Lib.hid (by rw [hpop]; show s1.els.dropLast.length = m; rw [HS.out, List.dropLast_concat, HM.out])
        have HP := Lib.hid hp
        have hok : Ok k (popS s1 y) := (hk1.pop (e := y) (by rw [HS.out]; simp)).less (by omega)
        clear hp hpop
        have hSd : ∀ w', Only (fun _ => False) wr w' → IS w' b (.slice (some ⟨g, 0, none⟩) (m + 1) ca) vo s1 := fun w' ho => by have := hS1.same ho; rw [HM.out] at this; exact this
        have HSd := Lib.hid hSd
        clear hSd
        have hwm : IntKind.i64.wrap (m : Int) = (m : Int) := IntWalk.i64_in _ (by omega)
        have hw2 : (m : Int) < (m : Int) + 1 := by omega
        have hw3 : m < m + 1 := Nat.lt_succ_self m
        have hw4 : (m : Int) ≤ (m : Int) := Int.le_refl _
        have hw5 : (0 : Int) ≤ (m : Int) := Int.natCast_nonneg m
        have hw6 : (m : Int).toNat = m := Int.toNat_natCast m
        go_wp2
        go_quiet ((go_at_call 63; exact Calls.quiet_of_same ((isPending_v _ _ _ HP.out).mono fun _ _ h => ⟨h.1, h.2.symm⟩)))
        all_goals
          clear hwm hw2 hw3 hw4 hw5 hw6
          go_wp2_with (go_at_call 27; refine (pop_p (HSd.out _ (only_drewN _ _)) hk1 HS.out).mono ?_; rintro r w2 ⟨rfl, ve2, hvb2, hS2, hO2⟩)
          go_roundg (gk - 1)
          case rel => exact ⟨popS s1 y, ve2, hS2, hok, HQ, by rw [HL.out]; have := HG.out; omega, (hOr.trans (Frm.keep (only_drewN _ _))).trans (Frm.here hO2 (hvb2.trans (by rw [HM.out])))⟩
          case measure => have := HG.out; omega
end
end Go.Proofs.Ythblchafjmgmbaa
