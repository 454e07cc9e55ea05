/-
  WALKS. The reference's machine: cut.
-/
import Derived.Test.YthblchafjmgmbaaLzB
import Derived.Test.YthblchafjmgmbaaIns3
namespace Go.Proofs.Ythblchafjmgmbaa
open Go.RowKit Go.Maps
def rPop (m : RM) (y : REl) (ys : List REl) : RM := if y.form == 1 then { rIns m 125 with stack := ys } else { m with stack := ys }
theorem rPop_stack (m : RM) (y : REl) (ys : List REl) : (rPop m y ys).stack = ys := by unfold rPop; split <;> rfl
theorem rCut_end {m : RM} {a : Int} (h : (m.stack.length : Int) - 1 ≤ a) : rCut m a = m := by
  unfold rCut
  rw [List.take_of_length_le (by omega), List.drop_eq_nil_of_le (by omega)]
  simp [rep]
theorem rCut_step {m : RM} {a : Int} {ys : List REl} {y : REl} (hs : m.stack = ys ++ [y]) (ha : -1 ≤ a) (h : a < ys.length) : rCut m a = rCut (rPop m y ys) a := by
  have hc : (a + 1).toNat ≤ ys.length := by omega
  have e1 : (rPop m y ys).stack = ys := rPop_stack m y ys
  have e2 : (rPop m y ys).out = m.out ++ rep (if y.form == 1 then 1 else 0) := by
    unfold rPop
    split
    · rfl
    · show m.out = m.out ++ []
      rw [List.append_nil]
  have e3 : (rPop m y ys).expects = m.expects := by unfold rPop; split <;> rfl
  have e4 : (rPop m y ys).word = m.word := by unfold rPop; split <;> rfl
  unfold rCut
  rw [e1, e2, e3, e4, hs, List.take_append_of_le_length hc, List.drop_append_of_le_length hc, List.countP_append, List.append_assoc]
  congr 2
  unfold rep
  rw [List.replicate_append_replicate]
  congr 1
  simp only [List.countP_cons, List.countP_nil]
  split <;> omega
section
variable {w : World} {b : Nat} {vs vo : Value} {m : RM} {li : Int} {fi : Bool} {F : RF}
theorem MS.drew (h : MS w b vs vo m li fi F) : MS w.drew b vs vo m li fi F := h.same ((Only.refl _ _).drew)
set_option maxRecDepth 100000 in
set_option maxHeartbeats 4000000 in
theorem rcut_p (h : MS w b vs vo m li fi F) (hk : m.stack.length + m.out.length + 1 ≤ 1000000000000) (at' : Int) (ha : -1 ≤ at') (ha2 : at' ≤ 1000000000000) : Calls Try.prog 18 #[.pointer (some ⟨b, 0, none⟩), .int .i64 at'] w fun r w' => r = .returned (.tuple #[]) ∧ MSx w b vs vo (rCut m at') li fi F w' := by
  go_enter Try.func18, Try.ntmps18
  go_wp2
  go_loopg [] (m.stack.length) (fun gk wr => ∃ (m1 : RM) (vs1 vo1 : Value), MS wr b vs1 vo1 m1 li fi F ∧ Hid (rCut m1 at' = rCut m at') ∧ m1.stack.length = gk ∧ m1.stack.length + m1.out.length + 1 ≤ 1000000000000 ∧ Frm w b vs vo wr vs1 vo1)
  case atStart => exact ⟨m, vs, vo, h, Lib.hid rfl, rfl, hk, Frm.keep (Only.refl _ _)⟩
  case round =>
    obtain ⟨m1, vs1, vo1, hS1, HI, hgk, hk1, hF1⟩ := hrel
    obtain ⟨oa, ca, rfl⟩ := hS1.elen
    have c0 := hS1.c0
    by_cases hgt : at' < (m1.stack.length : Int) - 1
    · obtain ⟨ys, y, hs⟩ : ∃ ys y, m1.stack = ys ++ [y] := ⟨m1.stack.dropLast, m1.stack.getLast (by intro e; rw [e] at hgt; simp at hgt; omega), (List.dropLast_concat_getLast _).symm⟩
      have hlen : m1.stack.length = ys.length + 1 := by rw [hs]; simp
      have HS1 := Lib.hid (rCut_step (a := at') hs ha (by omega))
      obtain ⟨g, hve, hbg, -, hca, hc, -⟩ := hS1.els.at (k := ys.length) (by omega)
      cases hve
      have hy : m1.stack[ys.length]'(by omega) = y := by simp [hs]
      rw [hy] at hc
      have hRR : RR wr (b + 1) (.slice (some ⟨g, 0, none⟩) ys.length ca) ys := by
        have := RR.cut hS1.els (k := ys.length) (by omega)
        rwa [hs, List.take_left] at this
      have d0 := hc.c0
      have hRR2 : ∀ wx vx, MS wx b (.slice (some ⟨g, 0, none⟩) m1.stack.length ca) vx (rIns m1 125) li fi F → RR wx.drew (b + 1) (.slice (some ⟨g, 0, none⟩) ys.length ca) ys := fun wx vx hx => by
        have := RR.cut (hx.same ((Only.refl _ _).drew)).els (k := ys.length) (by show _ < m1.stack.length; omega)
        change RR _ _ _ (m1.stack.take ys.length) at this
        rwa [hs, List.take_left] at this
      have z0 := hS1.fz 0
      obtain ⟨n, hn⟩ : ∃ n, ys.length = n := ⟨_, rfl⟩
      rw [hlen, hn] at c0 hca hk1 hgt hgk
      rw [hn] at d0 hRR hRR2
      have HRR2 := Lib.hid hRR2
      have HN := Lib.hid hn
      have HL := Lib.hid hlen
      have HSS := Lib.hid hs
      have hgn : at' < (n : Int) := by omega
      have hwm : IntKind.i64.wrap (n : Int) = (n : Int) := IntWalk.i64_in _ (by omega)
      have hw2 : (n : Int) < (n : Int) + 1 := by omega
      have hw3 : n < n + 1 := Nat.lt_succ_self n
      have hw5 : (0 : Int) ≤ (n : Int) := Int.natCast_nonneg n
      have hw6 : (n : Int).toNat = n := Int.toNat_natCast n
      subst hgk
      clear hn hlen hs hy hc hRR2
      cases hy : (y.form == 1)
      · have HR : Hid (rPop m1 y ys = { m1 with stack := ys }) := Lib.hid (by unfold rPop; rw [hy]; rfl)
        go_wp2
        go_quiet (fail)
        go_wp2
        go_region
        go_wp2
        go_roundg n
        case rel => exact ⟨rPop m1 y ys, .slice (some ⟨g, 0, none⟩) n ca, vo1, by rw [HR.out]; exact MS.put (m := m1) (k := 0) (m' := { m1 with stack := ys }) (vs' := .slice (some ⟨g, 0, none⟩) n ca) (vo' := vo1) (hS1.same (only_drewN _ _)).blk rfl (hRR.only (only_drewN _ _) (fun _ _ hc => hc)) (hS1.same (only_drewN _ _)).out, Lib.hid (by rw [← HS1.out]; exact HI.out), by rw [rPop_stack, HN.out], by rw [HR.out]; show ys.length + m1.out.length + 1 ≤ _; rw [HN.out]; omega, hF1.trans (Frm.here (Only.setCell (K := (· = b)) (only_drewN (K := (· = b)) _ _) rfl _) rfl)⟩
        case measure => omega
      · have HR : Hid (rPop m1 y ys = { rIns m1 125 with stack := ys }) := Lib.hid (by unfold rPop; rw [hy]; rfl)
        have hrm : Rm 1 m1 := ⟨by rw [HL.out, HN.out]; omega, by omega⟩
        go_wp2
        go_quiet (fail)
        go_wp2_with (go_at_call 16; refine (rinsert_p (hS1.same (only_drewN _ _)) hrm 125).mono ?_; rintro r w2 ⟨rfl, vo2, hS2, hF2⟩; have e0 := hS2.c0; have z2 := hS2.fz 0; rw [HL.out, HN.out] at e0)
        go_region
        go_wp2
        go_roundg n
        case rel => exact ⟨rPop m1 y ys, .slice (some ⟨g, 0, none⟩) n ca, vo2, by rw [HR.out]; exact MS.put (m := rIns m1 125) (k := 0) (m' := { rIns m1 125 with stack := ys }) (vs' := .slice (some ⟨g, 0, none⟩) n ca) (vo' := vo2) (hS2.same ((Only.refl _ _).drew)).blk rfl (HRR2.out _ _ hS2) (hS2.same ((Only.refl _ _).drew)).out, Lib.hid (by rw [← HS1.out]; exact HI.out), by rw [rPop_stack, HN.out], by rw [HR.out]; show ys.length + (m1.out ++ [insT 125]).length + 1 ≤ _; rw [HN.out, List.length_append, List.length_singleton]; omega, (hF1.trans ((Frm.keep (only_drewN _ _)).trans hF2)).trans (Frm.here (Only.setCell (K := (· = b)) ((Only.refl _ _).drew) rfl _) rfl)⟩
        case measure => omega
    · have HR := Lib.hid (rCut_end (m := m1) (a := at') (by omega))
      go_wp2
      go_end0
      exact ⟨rfl, by rw [← HI.out, HR.out]; exact ⟨_, _, hS1, hF1⟩⟩
end
end Go.Proofs.Ythblchafjmgmbaa
