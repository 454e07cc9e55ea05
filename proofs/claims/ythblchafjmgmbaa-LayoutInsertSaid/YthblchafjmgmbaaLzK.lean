/-
  WALKS. The reference's machine: item.
-/
import Derived.Test.YthblchafjmgmbaaLzJ
import Derived.StillTailTactics
namespace Go.Proofs.Ythblchafjmgmbaa
open Go.RowKit Go.Maps
section
variable {w w' : World} {b : Nat} {vs vo : Value} {m : RM} {li : Int} {fi : Bool} {F : RF}
theorem MS.otop (h : MS w b vs vo m li fi F) {us : List Tok} {u : Tok} (hs : m.out = us ++ [u]) : ∃ g ca, vo = .slice (some ⟨g, 0, none⟩) (us.length + 1) ca ∧ us.length + 1 ≤ ca ∧ TC w g (us.length * 7) u := by
  obtain ⟨oa, ca, rfl⟩ := h.olen
  have he := h.out
  rw [hs] at he
  obtain ⟨g, rfl, hb, hn, hle, hc⟩ := TR.at (k := us.length) he (by simp)
  exact ⟨g, ca, by rw [hs]; simp, by simpa using hle, by simpa using hc⟩
/-- The stack's slice: none, or a block's. -/
theorem MS.eform (h : MS w b vs vo m li fi F) : (vs = .slice none 0 0 ∧ m.stack = []) ∨ ∃ g ca, vs = .slice (some ⟨g, 0, none⟩) m.stack.length ca ∧ m.stack.length ≤ ca := by
  rcases h.els.2 with ⟨hv, hn⟩ | ⟨g, cap, cur, hv, hb, hg, hle, hr⟩
  · exact .inl ⟨hv, List.length_eq_zero_iff.1 hn⟩
  · exact .inr ⟨g, cap, hv, hle⟩
theorem RR.cut0 {w : World} {B n ca : Nat} {oa : Option Addr} {es : List REl} (h : RR w B (.slice oa n ca) es) : RR w B (.slice oa 0 ca) [] := by
  rcases h.2 with ⟨hv, hn⟩ | ⟨g, cap, cur, hv, hb, hg, hle, hm, hs, ht⟩
  · cases hv
    exact World.ownsRow_nil _ _ _ _
  · cases hv
    exact ⟨rfl, .inr ⟨g, ca, cur, rfl, hb, hg, Nat.zero_le _, hm, hs, by simp⟩⟩
/-- The stack is cut to k elements, in the machine's own block. -/
theorem MS.cutTo {oa : Option Addr} {n ca k : Nat} (h : MS w b (.slice oa n ca) vo m li fi F) (hk : k ≤ m.stack.length) : MS (w.setCell ⟨b, 0, none⟩ (.slice oa k ca)) b (.slice oa k ca) vo { m with stack := m.stack.take k } li fi F := by
  refine MS.put (m := m) (m' := { m with stack := m.stack.take k }) (k := 0) h.blk rfl ?_ h.out
  rcases Nat.lt_or_ge k m.stack.length with hl | hl
  · exact RR.cut h.els hl
  · have e1 : k = m.stack.length := by omega
    have e2 : n = m.stack.length := by
      obtain ⟨oa', ca', hv⟩ := h.elen
      cases hv; rfl
    subst e1
    rw [List.take_length]
    have := h.els
    rw [e2] at this
    exact this
theorem rItem_sz (m : RM) (t : Tok) : (rItem m t).stack.length ≤ m.stack.length ∧ (rItem m t).out = m.out := by
  unfold rItem
  split
  · exact ⟨Nat.le_refl _, rfl⟩
  · split
    · exact ⟨by show (m.stack.take _).length ≤ _; rw [List.length_take]; omega, rfl⟩
    · exact ⟨Nat.le_refl _, rfl⟩
set_option maxRecDepth 100000 in
set_option maxHeartbeats 8000000 in
theorem ritem_p (h : MS w b vs vo m li fi F) (hk : Sz 1 m) (t : Tok) : Calls Try.prog 30 #[.pointer (some ⟨b, 0, none⟩), tokV t] w fun r w' => r = .returned (.tuple #[]) ∧ MSx w b vs vo (rItem m t) li fi F w' := by
  have hz := hk.rm.out
  have hb := h.lt
  have hA : Only (fun _ => False) w (w.alloc (.cells (tokA t) 33)) := (Only.refl _ _).alloc _
  have h0 := h.same hA
  have t0 : TB (w.alloc (.cells (tokA t) 33)) w.heap.size t := new_block _ _
  rcases out_cases m.out with hs | ⟨us, u, hs⟩
  · have HR : Hid (rItem m t = m) := Lib.hid (by unfold rItem; rw [hs]; rfl)
    obtain ⟨oa, ca, hv⟩ := h0.olen
    rw [hs] at hv
    subst hv
    have c1 := h.c1
    clear hz hs
    go_enter Try.func30, Try.ntmps30
    go_wp2
    go_quiet (fail)
    all_goals
      go_wp2
      go_end0; exact ⟨rfl, by rw [HR.out]; exact (h0.same (only_drewN _ _)).x (Frm.keep (hA.trans (only_drewN _ _)))⟩
  · have HIT : Hid (rItem m t = if spT u [59] && !wdT t [116, 104, 101, 110] && !wdT t [101, 108, 115, 101] && !spT t [59] then { m with stack := m.stack.take (rCtx m.stack + 1).toNat } else m) := Lib.hid (by unfold rItem bThen bElse; rw [hs]; simp)
    obtain ⟨n, hn⟩ : ∃ n, us.length = n := ⟨_, rfl⟩
    rw [hs] at hz
    simp only [List.length_append, List.length_singleton] at hz
    rw [hn] at hz
    have hg0 : decide ((0 : Int) < (n : Int) + 1) = true := decide_eq_true (by omega)
    have hwm : IntKind.i64.wrap (n : Int) = (n : Int) := IntWalk.i64_in _ (by omega)
    have hw2 : (n : Int) < (n : Int) + 1 := by omega
    have hw3 : n < n + 1 := Nat.lt_succ_self n
    have hw5 : (0 : Int) ≤ (n : Int) := Int.natCast_nonneg n
    have hw6 : (n : Int).toNat = n := Int.toNat_natCast n
    have HN := Lib.hid hn
    have HS := Lib.hid hs
    clear hz hn hs
    have HW := Lib.hid hwm
    have HG := Lib.hid hg0
    clear hwm hg0
    go_enter Try.func30, Try.ntmps30
    go_wp2
    refine still_tail_w 19 (by kernel_rfl) (by kernel_rfl) (fun wd => MS wd b vs vo m li fi F ∧ TB wd w.heap.size t ∧ Only (fun _ => False) w wd) ⟨h0.same (Only.drew (Only.refl _ _)), t0.same (Only.drew (Only.refl _ _)), Only.drew hA⟩ ?_
    clear h0 t0 hA
    rintro wd ⟨hS, hT, hO⟩
    obtain ⟨g, ca, rfl, hca, hc⟩ := hS.otop HS.out
    have c1 := hS.c1
    have hlen : m.out.length = n + 1 := by rw [HS.out, List.length_append, HN.out]; rfl
    first | rw [hlen] at c1 | rw [HN.out] at c1
    rw [HN.out] at hca hc
    have hwm := HW.out
    have hg0 := HG.out
    have d0 := hc.c0
    have d1 := hc.c1
    have d2 := hc.c2
    have d3 := hc.c3
    have d4 := hc.c4
    have d5 := hc.c5
    have d6 := hc.c6
    clear hc hlen
    simp only [List.take_succ_cons, List.take_zero, List.drop_succ_cons, List.drop_zero]
    repeat still_step
    refine wpStill_nil ?_
    clear d0 d1 d2 d3 d4 d5 d6 c1 hwm hg0 hw2 hw3 hw5 hw6
    cases hu : spT u [59]
    · have HU := Lib.hid hu
      have HR : Hid (rItem m t = m) := Lib.hid (by rw [HIT.out, hu]; rfl)
      clear hu
      go_wp2_with ((go_at_call 47; ((with_reducible refine (rspecial_v u [59] _ _ HU.out).mono ?_); rintro r w1 ⟨rfl, hO1⟩; have hS1 := hS.same hO1; have hT1 := hT.same hO1; obtain ⟨e10, e11, e12, e13, e14, e15, e16⟩ := hT1.all)))
      go_end0; exact ⟨rfl, by rw [HR.out]; exact hS1.x (Frm.keep (hO.trans hO1))⟩
    · have HU := Lib.hid hu
      cases ha : wdT t [116, 104, 101, 110]
      case true =>
        have HA := Lib.hid ha
        have HR : Hid (rItem m t = m) := Lib.hid (by rw [HIT.out, hu, ha]; rfl)
        clear hu ha
        go_wp2_with (first | (go_at_call 47; ((with_reducible refine (rspecial_v u [59] _ _ HU.out).mono ?_); rintro r w1 ⟨rfl, hO1⟩; have hS1 := hS.same hO1; have hT1 := hT.same hO1; obtain ⟨e10, e11, e12, e13, e14, e15, e16⟩ := hT1.all)) | (go_at_call 48; ((with_reducible refine (rword_v t [116, 104, 101, 110] _ _ HA.out).mono ?_); rintro r w2 ⟨rfl, hO2⟩; have hS2 := hS1.same hO2; have hT2 := hT1.same hO2; obtain ⟨e20, e21, e22, e23, e24, e25, e26⟩ := hT2.all)))
        go_end0; exact ⟨rfl, by rw [HR.out]; exact hS2.x (Frm.keep ((hO.trans hO1).trans hO2))⟩
      have HA := Lib.hid ha
      cases he : wdT t [101, 108, 115, 101]
      case true =>
        have HE := Lib.hid he
        have HR : Hid (rItem m t = m) := Lib.hid (by rw [HIT.out, hu, ha, he]; rfl)
        clear hu ha he
        go_wp2_with (first | (go_at_call 47; ((with_reducible refine (rspecial_v u [59] _ _ HU.out).mono ?_); rintro r w1 ⟨rfl, hO1⟩; have hS1 := hS.same hO1; have hT1 := hT.same hO1; obtain ⟨e10, e11, e12, e13, e14, e15, e16⟩ := hT1.all)) | (go_at_call 48; ((with_reducible refine (rword_v t [116, 104, 101, 110] _ _ HA.out).mono ?_); rintro r w2 ⟨rfl, hO2⟩; have hS2 := hS1.same hO2; have hT2 := hT1.same hO2; obtain ⟨e20, e21, e22, e23, e24, e25, e26⟩ := hT2.all)) | (go_at_call 48; ((with_reducible refine (rword_v t [101, 108, 115, 101] _ _ HE.out).mono ?_); rintro r w3 ⟨rfl, hO3⟩; have hS3 := hS2.same hO3; have hT3 := hT2.same hO3; obtain ⟨e30, e31, e32, e33, e34, e35, e36⟩ := hT3.all)))
        go_end0; exact ⟨rfl, by rw [HR.out]; exact hS3.x (Frm.keep (((hO.trans hO1).trans hO2).trans hO3))⟩
      have HE := Lib.hid he
      cases hc : spT t [59]
      case true =>
        have HC := Lib.hid hc
        have HR : Hid (rItem m t = m) := Lib.hid (by rw [HIT.out, hu, ha, he, hc]; rfl)
        clear hu ha he hc
        go_wp2_with (first | (go_at_call 47; ((with_reducible refine (rspecial_v u [59] _ _ HU.out).mono ?_); rintro r w1 ⟨rfl, hO1⟩; have hS1 := hS.same hO1; have hT1 := hT.same hO1; obtain ⟨e10, e11, e12, e13, e14, e15, e16⟩ := hT1.all)) | (go_at_call 48; ((with_reducible refine (rword_v t [116, 104, 101, 110] _ _ HA.out).mono ?_); rintro r w2 ⟨rfl, hO2⟩; have hS2 := hS1.same hO2; have hT2 := hT1.same hO2; obtain ⟨e20, e21, e22, e23, e24, e25, e26⟩ := hT2.all)) | (go_at_call 48; ((with_reducible refine (rword_v t [101, 108, 115, 101] _ _ HE.out).mono ?_); rintro r w3 ⟨rfl, hO3⟩; have hS3 := hS2.same hO3; have hT3 := hT2.same hO3; obtain ⟨e30, e31, e32, e33, e34, e35, e36⟩ := hT3.all)) | (go_at_call 47; ((with_reducible refine (rspecial_v t [59] _ _ HC.out).mono ?_); rintro r w4 ⟨rfl, hO4⟩; have hS4 := hS3.same hO4; have hT4 := hT3.same hO4; obtain ⟨e40, e41, e42, e43, e44, e45, e46⟩ := hT4.all)))
        go_end0; exact ⟨rfl, by rw [HR.out]; exact hS4.x (Frm.keep ((((hO.trans hO1).trans hO2).trans hO3).trans hO4))⟩
      have HC := Lib.hid hc
      rcases h.eform with ⟨hvs, hst⟩ | ⟨g2, ca2, hvs, hle2⟩
      · have HX : Hid (rCtx m.stack = -1) := Lib.hid (by rw [hst]; rfl)
        have HVS := Lib.hid hvs
        have HV : Hid (some vs = some (.slice none 0 0)) := Lib.hid (by rw [hvs])
        have HKL : Hid (0 ≤ m.stack.length) := Lib.hid (Nat.zero_le _)
        clear hvs hst
        have HR : Hid (rItem m t = { m with stack := m.stack.take 0 }) := Lib.hid (by rw [HIT.out, hu, ha, he, hc, HX.out]; rfl)
        clear hu ha he hc
        go_wp2_with (first | (go_at_call 47; ((with_reducible refine (rspecial_v u [59] _ _ HU.out).mono ?_); rintro r w1 ⟨rfl, hO1⟩; have hS1 := hS.same hO1; have hT1 := hT.same hO1; obtain ⟨e10, e11, e12, e13, e14, e15, e16⟩ := hT1.all)) | (go_at_call 48; ((with_reducible refine (rword_v t [116, 104, 101, 110] _ _ HA.out).mono ?_); rintro r w2 ⟨rfl, hO2⟩; have hS2 := hS1.same hO2; have hT2 := hT1.same hO2; obtain ⟨e20, e21, e22, e23, e24, e25, e26⟩ := hT2.all)) | (go_at_call 48; ((with_reducible refine (rword_v t [101, 108, 115, 101] _ _ HE.out).mono ?_); rintro r w3 ⟨rfl, hO3⟩; have hS3 := hS2.same hO3; have hT3 := hT2.same hO3; obtain ⟨e30, e31, e32, e33, e34, e35, e36⟩ := hT3.all)) | (go_at_call 47; ((with_reducible refine (rspecial_v t [59] _ _ HC.out).mono ?_); rintro r w4 ⟨rfl, hO4⟩; have hS4 := hS3.same hO4; have hT4 := hT3.same hO4; obtain ⟨e40, e41, e42, e43, e44, e45, e46⟩ := hT4.all)))
        have c0 := hS4.c0.trans HV.out
        have z0 := hS4.fz 0
        have hw0 : IntKind.i64.wrap 0 = 0 := rfl
        have hSd := hS4.drew
        go_region_with (go_at_call 53; (refine (rctx_p hSd (hk.less (Nat.zero_le 1)).rm).mono ?_); rw [HX.out]; rintro r w5 ⟨rfl, hw5⟩; subst hw5)
        go_wp2
        all_goals
          go_end0
          rw [HR.out]
          have hM := hSd
          rw [HVS.out] at hM
          exact ⟨rfl, (hM.cutTo HKL.out).x ((Frm.keep (Only.drew ((((hO.trans hO1).trans hO2).trans hO3).trans hO4))).trans (Frm.here (Only.setCell (K := (· = b)) (Only.refl _ _) rfl _) (by first | (rw [HVS.out]; done) | (rw [HVS.out]; rfl))))⟩
      · rcases pos_cases (fun e => !(e.form == 5)) m.stack with ⟨hx, -⟩ | ⟨i, e, hi, hx, -, -⟩
        · have HX : Hid (rCtx m.stack = -1) := Lib.hid hx
          clear hx
          rcases Nat.eq_zero_or_pos ca2 with hq | hq
          · subst hq
            have HVS := Lib.hid hvs
            have HV : Hid (some vs = some (.slice (some ⟨g2, 0, none⟩) m.stack.length 0)) := Lib.hid (by rw [hvs])
            have HKL : Hid (0 ≤ m.stack.length) := Lib.hid (Nat.zero_le _)
            clear hvs
            have HR : Hid (rItem m t = { m with stack := m.stack.take 0 }) := Lib.hid (by rw [HIT.out, hu, ha, he, hc, HX.out]; rfl)
            clear hu ha he hc
            go_wp2_with (first | (go_at_call 47; ((with_reducible refine (rspecial_v u [59] _ _ HU.out).mono ?_); rintro r w1 ⟨rfl, hO1⟩; have hS1 := hS.same hO1; have hT1 := hT.same hO1; obtain ⟨e10, e11, e12, e13, e14, e15, e16⟩ := hT1.all)) | (go_at_call 48; ((with_reducible refine (rword_v t [116, 104, 101, 110] _ _ HA.out).mono ?_); rintro r w2 ⟨rfl, hO2⟩; have hS2 := hS1.same hO2; have hT2 := hT1.same hO2; obtain ⟨e20, e21, e22, e23, e24, e25, e26⟩ := hT2.all)) | (go_at_call 48; ((with_reducible refine (rword_v t [101, 108, 115, 101] _ _ HE.out).mono ?_); rintro r w3 ⟨rfl, hO3⟩; have hS3 := hS2.same hO3; have hT3 := hT2.same hO3; obtain ⟨e30, e31, e32, e33, e34, e35, e36⟩ := hT3.all)) | (go_at_call 47; ((with_reducible refine (rspecial_v t [59] _ _ HC.out).mono ?_); rintro r w4 ⟨rfl, hO4⟩; have hS4 := hS3.same hO4; have hT4 := hT3.same hO4; obtain ⟨e40, e41, e42, e43, e44, e45, e46⟩ := hT4.all)))
            have c0 := hS4.c0.trans HV.out
            have z0 := hS4.fz 0
            have hw0 : IntKind.i64.wrap 0 = 0 := rfl
            have hSd := hS4.drew
            go_region_with (go_at_call 53; (refine (rctx_p hSd (hk.less (Nat.zero_le 1)).rm).mono ?_); rw [HX.out]; rintro r w5 ⟨rfl, hw5⟩; subst hw5)
            go_wp2
            all_goals
              go_end0
              rw [HR.out]
              have hM := hSd
              rw [HVS.out] at hM
              exact ⟨rfl, (hM.cutTo HKL.out).x ((Frm.keep (Only.drew ((((hO.trans hO1).trans hO2).trans hO3).trans hO4))).trans (Frm.here (Only.setCell (K := (· = b)) (Only.refl _ _) rfl _) (by first | (rw [HVS.out]; done) | (rw [HVS.out]; rfl))))⟩
          · have hi0 : ¬ ca2 = 0 := by omega
            have HVS := Lib.hid hvs
            have HV : Hid (some vs = some (.slice (some ⟨g2, 0, none⟩) m.stack.length ca2)) := Lib.hid (by rw [hvs])
            have HKL : Hid (0 ≤ m.stack.length) := Lib.hid (Nat.zero_le _)
            have hi2 : (0 : Int) ≤ (ca2 : Int) := by omega
            have hi5 : ¬ (ca2 : Int) < 0 := by omega
            clear hvs
            have HR : Hid (rItem m t = { m with stack := m.stack.take 0 }) := Lib.hid (by rw [HIT.out, hu, ha, he, hc, HX.out]; rfl)
            clear hu ha he hc
            go_wp2_with (first | (go_at_call 47; ((with_reducible refine (rspecial_v u [59] _ _ HU.out).mono ?_); rintro r w1 ⟨rfl, hO1⟩; have hS1 := hS.same hO1; have hT1 := hT.same hO1; obtain ⟨e10, e11, e12, e13, e14, e15, e16⟩ := hT1.all)) | (go_at_call 48; ((with_reducible refine (rword_v t [116, 104, 101, 110] _ _ HA.out).mono ?_); rintro r w2 ⟨rfl, hO2⟩; have hS2 := hS1.same hO2; have hT2 := hT1.same hO2; obtain ⟨e20, e21, e22, e23, e24, e25, e26⟩ := hT2.all)) | (go_at_call 48; ((with_reducible refine (rword_v t [101, 108, 115, 101] _ _ HE.out).mono ?_); rintro r w3 ⟨rfl, hO3⟩; have hS3 := hS2.same hO3; have hT3 := hT2.same hO3; obtain ⟨e30, e31, e32, e33, e34, e35, e36⟩ := hT3.all)) | (go_at_call 47; ((with_reducible refine (rspecial_v t [59] _ _ HC.out).mono ?_); rintro r w4 ⟨rfl, hO4⟩; have hS4 := hS3.same hO4; have hT4 := hT3.same hO4; obtain ⟨e40, e41, e42, e43, e44, e45, e46⟩ := hT4.all)))
            have c0 := hS4.c0.trans HV.out
            have z0 := hS4.fz 0
            have hw0 : IntKind.i64.wrap 0 = 0 := rfl
            have hSd := hS4.drew
            go_region_with (go_at_call 53; (refine (rctx_p hSd (hk.less (Nat.zero_le 1)).rm).mono ?_); rw [HX.out]; rintro r w5 ⟨rfl, hw5⟩; subst hw5)
            go_wp2
            all_goals
              go_end0
              rw [HR.out]
              have hM := hSd
              rw [HVS.out] at hM
              exact ⟨rfl, (hM.cutTo HKL.out).x ((Frm.keep (Only.drew ((((hO.trans hO1).trans hO2).trans hO3).trans hO4))).trans (Frm.here (Only.setCell (K := (· = b)) (Only.refl _ _) rfl _) (by first | (rw [HVS.out]; done) | (rw [HVS.out]; rfl))))⟩
        · have HX : Hid (rCtx m.stack = (i : Int)) := Lib.hid hx
          have HVS := Lib.hid hvs
          have HV : Hid (some vs = some (.slice (some ⟨g2, 0, none⟩) m.stack.length ca2)) := Lib.hid (by rw [hvs])
          have HKL : Hid (i + 1 ≤ m.stack.length) := Lib.hid hi
          have hzz := hk.rm.els
          have hwi : IntKind.i64.wrap ((i : Int) + 1) = (i : Int) + 1 := IntWalk.i64_in _ (by omega)
          have hi1 : (0 : Int) ≤ (i : Int) + 1 := by omega
          have hi2 : (i : Int) + 1 ≤ (ca2 : Int) := by omega
          have hi3 : ((i : Int) + 1).toNat = i + 1 := by omega
          have hi4 : i + 1 ≤ ca2 := by omega
          clear hvs hx
          have HTN : ((i : Int) + 1).toNat = i + 1 := hi3
          have HR : Hid (rItem m t = { m with stack := m.stack.take (i + 1) }) := Lib.hid (by rw [HIT.out, hu, ha, he, hc, HX.out]; rfl)
          clear hu ha he hc
          go_wp2_with (first | (go_at_call 47; ((with_reducible refine (rspecial_v u [59] _ _ HU.out).mono ?_); rintro r w1 ⟨rfl, hO1⟩; have hS1 := hS.same hO1; have hT1 := hT.same hO1; obtain ⟨e10, e11, e12, e13, e14, e15, e16⟩ := hT1.all)) | (go_at_call 48; ((with_reducible refine (rword_v t [116, 104, 101, 110] _ _ HA.out).mono ?_); rintro r w2 ⟨rfl, hO2⟩; have hS2 := hS1.same hO2; have hT2 := hT1.same hO2; obtain ⟨e20, e21, e22, e23, e24, e25, e26⟩ := hT2.all)) | (go_at_call 48; ((with_reducible refine (rword_v t [101, 108, 115, 101] _ _ HE.out).mono ?_); rintro r w3 ⟨rfl, hO3⟩; have hS3 := hS2.same hO3; have hT3 := hT2.same hO3; obtain ⟨e30, e31, e32, e33, e34, e35, e36⟩ := hT3.all)) | (go_at_call 47; ((with_reducible refine (rspecial_v t [59] _ _ HC.out).mono ?_); rintro r w4 ⟨rfl, hO4⟩; have hS4 := hS3.same hO4; have hT4 := hT3.same hO4; obtain ⟨e40, e41, e42, e43, e44, e45, e46⟩ := hT4.all)))
          have c0 := hS4.c0.trans HV.out
          have z0 := hS4.fz 0
          have hSd := hS4.drew
          go_region_with (go_at_call 53; (refine (rctx_p hSd (hk.less (Nat.zero_le 1)).rm).mono ?_); rw [HX.out]; rintro r w5 ⟨rfl, hw5⟩; subst hw5)
          go_wp2
          all_goals
            go_end0
            rw [HR.out]
            have hM := hSd
            rw [HVS.out] at hM
            exact ⟨rfl, (hM.cutTo HKL.out).x ((Frm.keep (Only.drew ((((hO.trans hO1).trans hO2).trans hO3).trans hO4))).trans (Frm.here (Only.setCell (K := (· = b)) (Only.refl _ _) rfl _) (by first | (rw [HVS.out]; done) | (rw [HVS.out]; rfl))))⟩
end
end Go.Proofs.Ythblchafjmgmbaa
