/-
  WALKS. The inserter: end.
-/
import Derived.Test.YthblchafjmgmbaaLyK
namespace Go.Proofs.Ythblchafjmgmbaa
open Go.RowKit Go.Maps
section
variable {w : World} {b : Nat} {ve vo : Value} {s : St}
/-- What end leaves. -/
def EnR (w : World) (b : Nat) (ve vo : Value) (R : Option (List Tok)) (r : Ending) (w' : World) : Prop := match R with
  | none => r = .returned (.bool false) ∧ Only (b ≤ ·) w w'
  | some l => r = .returned (.bool true) ∧ ∃ s', s'.out = l ∧ ISx w b ve vo s' w'
theorem end_step (ys : List El) (y : El) (inside : Bool) (out : List Tok) : endE (ys ++ [y]).reverse inside out = if (y.kind == 2) || (y.kind == 3) then endE ys.reverse true out else if y.kind == 0 then (if inside then none else endE ys.reverse inside (out ++ [insT 125])) else endE ys.reverse inside out := by
  rw [List.reverse_append]
  rfl
theorem popS_out (s : St) (y : El) : (popS s y).out = s.out := rfl
theorem pop_q (h : IS w b ve vo s) {k : Nat} (hk : Ok k s) {ys : List El} {y : El} (hs : s.els = ys ++ [y]) : Calls Try.prog 27 #[.pointer (some ⟨b, 0, none⟩)] w fun r w' => r = .returned (.agg #[.int .i64 y.kind, .int .i64 y.col, .string y.word, .bool y.marked, .int .i64 y.blk, .int .i64 y.ctx]) ∧ ∃ ve', ve'.ownBlock = ve.ownBlock ∧ IS w' b ve' vo (popS s y) ∧ Only (· = b) w w' := pop_p h hk hs
set_option maxRecDepth 100000 in
set_option maxHeartbeats 8000000 in
theorem end_p (h : IS w b ve vo s) (hk : Ok 2 s) : Calls Try.prog 14 #[.pointer (some ⟨b, 0, none⟩)] w (EnR w b ve vo (endS s)) := by
  have c3 := h.c3
  have hk1 : Ok 1 (insS s 123) := Ok.ins (k := 1) hk
  have hk2 : Ok 0 (insS (insS s 123) 125) := Ok.ins (k := 0) hk1
  have hk0 : Ok 1 s := hk.less (by omega)
  have hkz : Ok 0 s := hk.less (by omega)
  cases hx : s.exp
  · have hes : endE s.els.reverse false s.out = endS s := by unfold endS; rw [hx]; rfl
    rw [hx] at c3
    have HX := Lib.hid hx
    have HE := Lib.hid hes
    clear hx hes
    go_enter Try.func14, Try.ntmps14
    go_wp2
    go_loopg [3] (s.els.length) (fun gk v wr => ∃ (s1 : St) (ve1 vo1 : Value) (inside : Bool), v = .bool inside ∧ IS wr b ve1 vo1 s1 ∧ Ok 0 s1 ∧ Hid (endE s1.els.reverse inside s1.out = endS s) ∧ s1.els.length = gk ∧ Frm w b ve vo wr ve1 vo1)
    case atStart => exact ⟨s, ve, vo, false, rfl, h, hkz, Lib.hid HE.out, rfl, Frm.keep (Only.refl _ _)⟩
    case round =>
      obtain ⟨s1, ve1, vo1, inside, rfl, hS1, hk1, HD, hgk, hOr⟩ := hrel
      have hz := hk1.els_le
      rcases top_cases s1.els with hs | ⟨ys, y, hs⟩
      · obtain ⟨oa, ca, rfl⟩ := hS1.empty hs
        have d0 := hS1.c0
        have HR : Hid (endS s = some s1.out) := Lib.hid (by rw [← HD.out, hs]; rfl)
        clear hs hz hgk
        go_wp2
        go_ret
        rw [HR.out]
        exact ⟨rfl, s1, rfl, hS1.x hOr⟩
      · obtain ⟨g, ca, rfl, hca, hbg, hc, hf⟩ := hS1.top hs
        have d0 := hS1.c0
        have hst := end_step ys y inside s1.out
        rw [← hs, HD.out] at hst
        have HST := Lib.hid hst
        have hok := hk1.pop (e := y) (by rw [hs]; simp)
        have hpe : (popS s1 y).els = ys := by show s1.els.dropLast = ys; rw [hs, List.dropLast_concat]
        have HPE := Lib.hid hpe
        have HS := Lib.hid hs
        have hlen : ys.length + 1 = gk := by rw [← hgk, hs]; simp
        have HG := Lib.hid hlen
        have hzz : ys.length + 1 ≤ 1000000000000 := by rw [hs] at hz; simp at hz; omega
        obtain ⟨m, hm⟩ : ∃ m, ys.length = m := ⟨_, rfl⟩
        rw [hm] at d0 hzz
        have HM := Lib.hid hm
        clear hs hz hgk hst hpe hlen hm hc hf hca
        have hfd : ∀ w : World, (Instr.field 59 (.agg #[.int .i64 y.kind, .int .i64 y.col, .string y.word, .bool y.marked, .int .i64 y.blk, .int .i64 y.ctx]) 0).run Try.prog w = .ok (.int .i64 y.kind) w := fun _ => by kernel_rfl
        cases h2 : (y.kind == 2)
        · cases h3 : (y.kind == 3)
          · cases hy : (y.kind == 0)
            · have HR : Hid (endE (popS s1 y).els.reverse inside (popS s1 y).out = endS s) := Lib.hid (by rw [HPE.out, HST.out, h2, h3, hy]; rfl)
              have hok1 : Ok 0 (popS s1 y) := hok.less (by omega)
              go_wp2_with (go_at_call 27; refine (pop_q hS1 hk1 HS.out).mono ?_; rintro r w2 ⟨rfl, ve2, hvb2, hS2, hO2⟩; have hG2 := hOr.trans (Frm.here hO2 hvb2))
              go_roundg (gk - 1)
              case rel => exact ⟨popS s1 y, ve2, vo1, inside, rfl, hS2, hok1, HR, by rw [HPE.out]; have := HG.out; omega, hG2⟩
              case measure => have := HG.out; omega
            · cases inside
              · have HR : Hid (endE (insS (popS s1 y) 125).els.reverse false (insS (popS s1 y) 125).out = endS s) := Lib.hid (by show endE (popS s1 y).els.reverse false _ = _; rw [HPE.out, HST.out, h2, h3, hy]; rfl)
                have hok1 : Ok 1 (popS s1 y) := hok.less (by have := wgt_pos y; omega)
                have hok2 : Ok 0 (insS (popS s1 y) 125) := Ok.ins (k := 0) hok1
                go_wp2_with (first | (go_at_call 27; refine (pop_q hS1 hk1 HS.out).mono ?_; rintro r w2 ⟨rfl, ve2, hvb2, hS2, hO2⟩; have hG2 := hOr.trans (Frm.here hO2 hvb2)) | (go_at_call 26; refine (insert_p hS2 hok1 125).mono ?_; rintro r w3 ⟨rfl, vo3, hS3, hO3, hF3⟩; clear hO3))
                go_roundg (gk - 1)
                case rel => exact ⟨insS (popS s1 y) 125, ve2, vo3, false, rfl, hS3, hok2, HR, by show (popS s1 y).els.length = _; rw [HPE.out]; have := HG.out; omega, hG2.trans hF3⟩
                case measure => have := HG.out; omega
              · have HR : Hid (endS s = none) := Lib.hid (by rw [HST.out, h2, h3, hy]; rfl)
                go_wp2_with (go_at_call 27; refine (pop_q hS1 hk1 HS.out).mono ?_; rintro r w2 ⟨rfl, ve2, hvb2, hS2, hO2⟩; have hG2 := hOr.trans (Frm.here hO2 hvb2))
                go_ret
                rw [HR.out]
                exact ⟨rfl, Frm.low h hG2⟩
          · have HR : Hid (endE (popS s1 y).els.reverse true (popS s1 y).out = endS s) := Lib.hid (by rw [HPE.out, HST.out, h2, h3]; rfl)
            have hok1 : Ok 0 (popS s1 y) := hok.less (by omega)
            go_wp2_with (go_at_call 27; refine (pop_q hS1 hk1 HS.out).mono ?_; rintro r w2 ⟨rfl, ve2, hvb2, hS2, hO2⟩; have hG2 := hOr.trans (Frm.here hO2 hvb2))
            go_roundg (gk - 1)
            case rel => exact ⟨popS s1 y, ve2, vo1, true, rfl, hS2, hok1, HR, by rw [HPE.out]; have := HG.out; omega, hG2⟩
            case measure => have := HG.out; omega
        · have HR : Hid (endE (popS s1 y).els.reverse true (popS s1 y).out = endS s) := Lib.hid (by rw [HPE.out, HST.out, h2]; rfl)
          have hok1 : Ok 0 (popS s1 y) := hok.less (by omega)
          go_wp2_with (go_at_call 27; refine (pop_q hS1 hk1 HS.out).mono ?_; rintro r w2 ⟨rfl, ve2, hvb2, hS2, hO2⟩; have hG2 := hOr.trans (Frm.here hO2 hvb2))
          go_roundg (gk - 1)
          case rel => exact ⟨popS s1 y, ve2, vo1, true, rfl, hS2, hok1, HR, by rw [HPE.out]; have := HG.out; omega, hG2⟩
          case measure => have := HG.out; omega
  · have hes : endE (insS (insS s 123) 125).els.reverse false (insS (insS s 123) 125).out = endS s := by
      unfold endS
      rw [hx]
      show endE s.els.reverse false (s.out ++ [insT 123] ++ [insT 125]) = endE s.els.reverse false (s.out ++ [insT 123, insT 125])
      rw [List.append_assoc]; rfl
    rw [hx] at c3
    have HX := Lib.hid hx
    have HE := Lib.hid hes
    clear hx hes
    go_enter Try.func14, Try.ntmps14
    go_wp2_with (first | (go_at_call 26; ((with_reducible refine (insert_p h hk0 123).mono ?_); rintro r wa ⟨rfl, voa, hSa, hOa, hFa⟩; clear hOa)) | (go_at_call 26; ((with_reducible refine (insert_p hSa hk1 125).mono ?_); rintro r wb ⟨rfl, vob, hSb, hOb, hFb⟩; clear hOb)))
    have hFab := hFa.trans hFb
    go_loopg [3] ((insS (insS s 123) 125).els.length) (fun gk v wr => ∃ (s1 : St) (ve1 vo1 : Value) (inside : Bool), v = .bool inside ∧ IS wr b ve1 vo1 s1 ∧ Ok 0 s1 ∧ Hid (endE s1.els.reverse inside s1.out = endS s) ∧ s1.els.length = gk ∧ Frm w b ve vo wr ve1 vo1)
    case atStart => exact ⟨(insS (insS s 123) 125), _, vob, false, rfl, hSb, hk2, Lib.hid HE.out, rfl, hFab⟩
    case round =>
      obtain ⟨s1, ve1, vo1, inside, rfl, hS1, hk1, HD, hgk, hOr⟩ := hrel
      have hz := hk1.els_le
      rcases top_cases s1.els with hs | ⟨ys, y, hs⟩
      · obtain ⟨oa, ca, rfl⟩ := hS1.empty hs
        have d0 := hS1.c0
        have HR : Hid (endS s = some s1.out) := Lib.hid (by rw [← HD.out, hs]; rfl)
        clear hs hz hgk
        go_wp2
        go_ret
        rw [HR.out]
        exact ⟨rfl, s1, rfl, hS1.x hOr⟩
      · obtain ⟨g, ca, rfl, hca, hbg, hc, hf⟩ := hS1.top hs
        have d0 := hS1.c0
        have hst := end_step ys y inside s1.out
        rw [← hs, HD.out] at hst
        have HST := Lib.hid hst
        have hok := hk1.pop (e := y) (by rw [hs]; simp)
        have hpe : (popS s1 y).els = ys := by show s1.els.dropLast = ys; rw [hs, List.dropLast_concat]
        have HPE := Lib.hid hpe
        have HS := Lib.hid hs
        have hlen : ys.length + 1 = gk := by rw [← hgk, hs]; simp
        have HG := Lib.hid hlen
        have hzz : ys.length + 1 ≤ 1000000000000 := by rw [hs] at hz; simp at hz; omega
        obtain ⟨m, hm⟩ : ∃ m, ys.length = m := ⟨_, rfl⟩
        rw [hm] at d0 hzz
        have HM := Lib.hid hm
        clear hs hz hgk hst hpe hlen hm hc hf hca
        have hfd : ∀ w : World, (Instr.field 59 (.agg #[.int .i64 y.kind, .int .i64 y.col, .string y.word, .bool y.marked, .int .i64 y.blk, .int .i64 y.ctx]) 0).run Try.prog w = .ok (.int .i64 y.kind) w := fun _ => by kernel_rfl
        cases h2 : (y.kind == 2)
        · cases h3 : (y.kind == 3)
          · cases hy : (y.kind == 0)
            · have HR : Hid (endE (popS s1 y).els.reverse inside (popS s1 y).out = endS s) := Lib.hid (by rw [HPE.out, HST.out, h2, h3, hy]; rfl)
              have hok1 : Ok 0 (popS s1 y) := hok.less (by omega)
              go_wp2_with (go_at_call 27; refine (pop_q hS1 hk1 HS.out).mono ?_; rintro r w2 ⟨rfl, ve2, hvb2, hS2, hO2⟩; have hG2 := hOr.trans (Frm.here hO2 hvb2))
              go_roundg (gk - 1)
              case rel => exact ⟨popS s1 y, ve2, vo1, inside, rfl, hS2, hok1, HR, by rw [HPE.out]; have := HG.out; omega, hG2⟩
              case measure => have := HG.out; omega
            · cases inside
              · have HR : Hid (endE (insS (popS s1 y) 125).els.reverse false (insS (popS s1 y) 125).out = endS s) := Lib.hid (by show endE (popS s1 y).els.reverse false _ = _; rw [HPE.out, HST.out, h2, h3, hy]; rfl)
                have hok1 : Ok 1 (popS s1 y) := hok.less (by have := wgt_pos y; omega)
                have hok2 : Ok 0 (insS (popS s1 y) 125) := Ok.ins (k := 0) hok1
                go_wp2_with (first | (go_at_call 27; refine (pop_q hS1 hk1 HS.out).mono ?_; rintro r w2 ⟨rfl, ve2, hvb2, hS2, hO2⟩; have hG2 := hOr.trans (Frm.here hO2 hvb2)) | (go_at_call 26; refine (insert_p hS2 hok1 125).mono ?_; rintro r w3 ⟨rfl, vo3, hS3, hO3, hF3⟩; clear hO3))
                go_roundg (gk - 1)
                case rel => exact ⟨insS (popS s1 y) 125, ve2, vo3, false, rfl, hS3, hok2, HR, by show (popS s1 y).els.length = _; rw [HPE.out]; have := HG.out; omega, hG2.trans hF3⟩
                case measure => have := HG.out; omega
              · have HR : Hid (endS s = none) := Lib.hid (by rw [HST.out, h2, h3, hy]; rfl)
                go_wp2_with (go_at_call 27; refine (pop_q hS1 hk1 HS.out).mono ?_; rintro r w2 ⟨rfl, ve2, hvb2, hS2, hO2⟩; have hG2 := hOr.trans (Frm.here hO2 hvb2))
                go_ret
                rw [HR.out]
                exact ⟨rfl, Frm.low h hG2⟩
          · have HR : Hid (endE (popS s1 y).els.reverse true (popS s1 y).out = endS s) := Lib.hid (by rw [HPE.out, HST.out, h2, h3]; rfl)
            have hok1 : Ok 0 (popS s1 y) := hok.less (by omega)
            go_wp2_with (go_at_call 27; refine (pop_q hS1 hk1 HS.out).mono ?_; rintro r w2 ⟨rfl, ve2, hvb2, hS2, hO2⟩; have hG2 := hOr.trans (Frm.here hO2 hvb2))
            go_roundg (gk - 1)
            case rel => exact ⟨popS s1 y, ve2, vo1, true, rfl, hS2, hok1, HR, by rw [HPE.out]; have := HG.out; omega, hG2⟩
            case measure => have := HG.out; omega
        · have HR : Hid (endE (popS s1 y).els.reverse true (popS s1 y).out = endS s) := Lib.hid (by rw [HPE.out, HST.out, h2]; rfl)
          have hok1 : Ok 0 (popS s1 y) := hok.less (by omega)
          go_wp2_with (go_at_call 27; refine (pop_q hS1 hk1 HS.out).mono ?_; rintro r w2 ⟨rfl, ve2, hvb2, hS2, hO2⟩; have hG2 := hOr.trans (Frm.here hO2 hvb2))
          go_roundg (gk - 1)
          case rel => exact ⟨popS s1 y, ve2, vo1, true, rfl, hS2, hok1, HR, by rw [HPE.out]; have := HG.out; omega, hG2⟩
          case measure => have := HG.out; omega
end
end Go.Proofs.Ythblchafjmgmbaa
