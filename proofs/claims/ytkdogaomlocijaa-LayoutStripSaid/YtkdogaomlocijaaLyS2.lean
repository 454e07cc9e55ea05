/-
  WALKS. LayoutStrip, LayoutExplicit.
-/
import Derived.Test.YtkdogaomlocijaaLyY
import Derived.Test.YtkdogaomlocijaaLyE2
namespace Go.Proofs.Ytkdogaomlocijaa
open Go.RowKit Go.Maps
theorem rExplicit_any (w : World) (oa : Option Addr) (n ca : Nat) (ts : List Tok) (hn : n ≤ 1000000000) (hT : Tks w oa n ts) (h0 : oa = none → n = 0 ∧ ca = 0) :
    Calls Try.prog 16 #[.slice oa n ca] w fun r w' => (∃ vo, r = .returned vo ∧ TR w' w.heap.size vo (explL ts)) ∧ Only (fun _ => False) w w' := by
  cases oa with
  | none =>
    obtain ⟨rfl, rfl⟩ := h0 rfl
    obtain rfl := List.length_eq_zero_iff.1 hT.len
    exact rExplicit_nil w
  | some ad => exact rExplicit_ok w ad n ca ts hn hT
theorem stripL_le (ts : List Tok) : (stripL ts).length ≤ ts.length := List.length_filter_le _ _
theorem explL_len (ts : List Tok) : (explL ts).length = ts.length := List.length_map _
set_option maxRecDepth 100000 in
theorem StripL_far (w : World) (oa : Option Addr) (n ca : Nat) (hf : decide (n ≤ 3000) = false) :
    Calls Try.prog 4 #[.slice oa n ca] w fun e w' => e = .returned (.bool true) ∧ Only (fun _ => False) w w' := by
  have HF := Lib.hid hf
  clear hf
  go_enter Try.func4, Try.ntmps4
  go_wp2_with (first | (go_at_call 8; refine (few_p oa n ca _ _ HF.out).mono ?_; rintro r w9 ⟨rfl, rfl⟩) | (go_at_call 9; refine (example_p _).mono ?_; rintro r w8 ⟨rfl, hO8⟩))
  go_ret
  exact ⟨rfl, hO8⟩
set_option maxRecDepth 100000 in
set_option maxHeartbeats 8000000 in
theorem StripL_bad (w : World) (oa : Option Addr) (n ca : Nat) (ts : List Tok) (hT : Tks w oa n ts) (h0 : oa = none → n = 0 ∧ ca = 0) {c : Int} {nm : ByteArray} {li co : Int} (hR : insP ts = .bad c nm li co) (hf : n ≤ 3000) :
    Calls Try.prog 4 #[.slice oa n ca] w fun e w' => e = .returned (.bool true) ∧ Only (fun _ => False) w w' := by
  have HX := Lib.hid hR
  have hfd : decide (n ≤ 3000) = true := decide_eq_true hf
  have HF := Lib.hid hfd
  have hlen := hT.len
  have HSB : Hid ((stripL ts).length ≤ 100000000000) := Lib.hid (by have := stripL_le ts; omega)
  have HEB : Hid ((explL ts).length ≤ 100000000000) := Lib.hid (by rw [explL_len]; omega)
  have HLN := Lib.hid hlen
  have hc := insP_bad hR
  have hc1 : (c == 0) = false := by simpa using hc
  clear hR hc hfd hlen
  go_enter Try.func4, Try.ntmps4
  go_wp2_with (first | (go_at_call 8; refine (few_p oa n ca _ _ HF.out).mono ?_; rintro r w9 ⟨rfl, rfl⟩) | (go_at_call 10; ((with_reducible refine (Insert_any w oa n ca ts (by omega) hT).mono ?_); rw [HX.out]; rintro r w1 ⟨hO1, rfl⟩)) | (go_at_call 13; ((with_reducible refine (Strip_p _ oa n ca ts (by omega) (hT.keep (Only.alloc hO1 _))).mono ?_); rintro r w2 ⟨⟨vo2, rfl, hR2⟩, hO2⟩; obtain ⟨o2, c2, hv2⟩ := rowForm hR2; subst hv2; have hP2 := Only.trans (Only.alloc hO1 _) hO2)) | (go_at_call 14; ((with_reducible refine (rStrip_p _ oa n ca ts (by omega) (hT.keep hP2)).mono ?_); rintro r w3 ⟨⟨vo3, rfl, hR3⟩, hO3⟩; obtain ⟨o3, c3, hv3⟩ := rowForm hR3; subst hv3; have hP3 := hP2.trans hO3)) | (go_at_call 12; ((with_reducible refine (SameEq_p _ o2 o3 (stripL ts).length c2 c3 (stripL ts) HSB.out (TR.tkz (hR2.only hO3 (fun _ _ hc => hc))) (TR.tkz hR3)).mono ?_); rintro r w4 ⟨rfl, hO4⟩; have hP4 := hP3.trans hO4)) | (go_at_call 15; ((with_reducible refine (Explicit_p _ oa n ca ts (by omega) (hT.keep hP4)).mono ?_); rintro r w5 ⟨⟨vo5, rfl, hR5⟩, hO5⟩; obtain ⟨o5, c5, hv5⟩ := rowForm hR5; subst hv5; have hP5 := hP4.trans hO5)) | (go_at_call 16; ((with_reducible refine (rExplicit_any _ oa n ca ts (by omega) (hT.keep hP5) h0).mono ?_); rintro r w6 ⟨⟨vo6, rfl, hR6⟩, hO6⟩; obtain ⟨o6, c6, hv6⟩ := rowForm hR6; subst hv6; have hP6 := hP5.trans hO6)) | (go_at_call 12; ((with_reducible refine (SameEq_p _ o5 o6 (explL ts).length c5 c6 (explL ts) HEB.out (TR.tkz (hR5.only hO6 (fun _ _ hc => hc))) (TR.tkz hR6)).mono ?_); rintro r w7 ⟨rfl, hO7⟩; have hP7 := hP6.trans hO7)) | (go_at_call 9; refine (example_p _).mono ?_; rintro r w8 ⟨rfl, hO8⟩))
  go_ret
  exact ⟨rfl, hP7.trans hO8⟩
set_option maxRecDepth 100000 in
set_option maxHeartbeats 8000000 in
theorem StripL_ok (w : World) (oa : Option Addr) (n ca : Nat) (ts : List Tok) (hT : Tks w oa n ts) (h0 : oa = none → n = 0 ∧ ca = 0) {rs : List Tok} (hR : insP ts = .ok rs) (hf : n ≤ 3000) :
    Calls Try.prog 4 #[.slice oa n ca] w fun e w' => e = .returned (.bool true) ∧ Only (fun _ => False) w w' := by
  have HX := Lib.hid hR
  have hfd : decide (n ≤ 3000) = true := decide_eq_true hf
  have HF := Lib.hid hfd
  have hlen := hT.len
  have HSB : Hid ((stripL ts).length ≤ 100000000000) := Lib.hid (by have := stripL_le ts; omega)
  have HEB : Hid ((explL ts).length ≤ 100000000000) := Lib.hid (by rw [explL_len]; omega)
  have HLN := Lib.hid hlen
  have hres := insP_res hR
  have HSTR : Hid (stripL rs = ts) := Lib.hid hres.strip
  have HRB : Hid (rs.length ≤ 1000000000) := Lib.hid (by have := insP_len hR; omega)
  clear hR hfd hlen hres
  go_enter Try.func4, Try.ntmps4
  go_wp2_with (first | (go_at_call 8; refine (few_p oa n ca _ _ HF.out).mono ?_; rintro r w9 ⟨rfl, rfl⟩) | (go_at_call 10; ((with_reducible refine (Insert_any w oa n ca ts (by omega) hT).mono ?_); rw [HX.out]; rintro r w1 ⟨hO1, vo, rfl, hRo⟩; obtain ⟨os, cs, hvo⟩ := rowForm hRo; subst hvo)) | (go_at_call 13; ((with_reducible refine (Strip_p _ os rs.length cs rs HRB.out (TR.tkz (hRo.only (Only.alloc (Only.refl (fun _ => False) _) _) (fun _ _ hc => hc)))).mono ?_); rintro r wa ⟨⟨voa, rfl, hRa⟩, hOa⟩; rw [HSTR.out] at hRa; obtain ⟨ob, cb, hvb⟩ := rowForm hRa; rw [HLN.out] at hvb; subst hvb; have hPa := Only.trans (Only.alloc hO1 _) hOa)) | (go_at_call 12; ((with_reducible refine (SameEq_p _ ob oa n cb ca ts (by omega) (TR.tkz hRa) (hT.keep hPa)).mono ?_); rintro r wb ⟨rfl, hOb⟩; have hPb := hPa.trans hOb)) | (go_at_call 13; ((with_reducible refine (Strip_p _ oa n ca ts (by omega) (hT.keep (hPb))).mono ?_); rintro r w2 ⟨⟨vo2, rfl, hR2⟩, hO2⟩; obtain ⟨o2, c2, hv2⟩ := rowForm hR2; subst hv2; have hP2 := Only.trans (hPb) hO2)) | (go_at_call 14; ((with_reducible refine (rStrip_p _ oa n ca ts (by omega) (hT.keep hP2)).mono ?_); rintro r w3 ⟨⟨vo3, rfl, hR3⟩, hO3⟩; obtain ⟨o3, c3, hv3⟩ := rowForm hR3; subst hv3; have hP3 := hP2.trans hO3)) | (go_at_call 12; ((with_reducible refine (SameEq_p _ o2 o3 (stripL ts).length c2 c3 (stripL ts) HSB.out (TR.tkz (hR2.only hO3 (fun _ _ hc => hc))) (TR.tkz hR3)).mono ?_); rintro r w4 ⟨rfl, hO4⟩; have hP4 := hP3.trans hO4)) | (go_at_call 15; ((with_reducible refine (Explicit_p _ oa n ca ts (by omega) (hT.keep hP4)).mono ?_); rintro r w5 ⟨⟨vo5, rfl, hR5⟩, hO5⟩; obtain ⟨o5, c5, hv5⟩ := rowForm hR5; subst hv5; have hP5 := hP4.trans hO5)) | (go_at_call 16; ((with_reducible refine (rExplicit_any _ oa n ca ts (by omega) (hT.keep hP5) h0).mono ?_); rintro r w6 ⟨⟨vo6, rfl, hR6⟩, hO6⟩; obtain ⟨o6, c6, hv6⟩ := rowForm hR6; subst hv6; have hP6 := hP5.trans hO6)) | (go_at_call 12; ((with_reducible refine (SameEq_p _ o5 o6 (explL ts).length c5 c6 (explL ts) HEB.out (TR.tkz (hR5.only hO6 (fun _ _ hc => hc))) (TR.tkz hR6)).mono ?_); rintro r w7 ⟨rfl, hO7⟩; have hP7 := hP6.trans hO7)) | (go_at_call 9; refine (example_p _).mono ?_; rintro r w8 ⟨rfl, hO8⟩))
  go_ret
  exact ⟨rfl, hP7.trans hO8⟩
set_option maxRecDepth 100000 in
set_option maxHeartbeats 8000000 in
theorem ExplL_bad (w : World) (oa : Option Addr) (n ca : Nat) (ts : List Tok) (hT : Tks w oa n ts) {c : Int} {nm : ByteArray} {li co : Int} (hR : insP ts = .bad c nm li co) (hn : n ≤ 100000000000) :
    Calls Try.prog 6 #[.slice oa n ca] w fun e w' => e = .returned (.bool true) ∧ Only (fun _ => False) w w' := by
  have HX := Lib.hid hR
  have hc := insP_bad hR
  have hc1 : (c != 0) = true := by simpa [bne] using hc
  clear hR hc
  cases hf : decide (n ≤ 3000)
  all_goals
    have HF := Lib.hid hf
    clear hf
    go_enter Try.func6, Try.ntmps6
    go_wp2_with (first | (go_at_call 8; refine (few_p oa n ca _ _ HF.out).mono ?_; rintro r w9 ⟨rfl, rfl⟩) | (go_at_call 10; ((with_reducible refine (Insert_any w oa n ca ts (by omega) hT).mono ?_); rw [HX.out]; rintro r w1 ⟨hO1, rfl⟩)) | (go_at_call 9; refine (example_p _).mono ?_; rintro r w8 ⟨rfl, hO8⟩))
    go_ret
    exact ⟨rfl, (Only.alloc hO1 _).trans hO8⟩
set_option maxRecDepth 100000 in
set_option maxHeartbeats 8000000 in
theorem ExplL_far (w : World) (oa : Option Addr) (n ca : Nat) (ts : List Tok) (hT : Tks w oa n ts) {rs : List Tok} (hR : insP ts = .ok rs) (hn : n ≤ 100000000000) (hf : decide (n ≤ 3000) = false) :
    Calls Try.prog 6 #[.slice oa n ca] w fun e w' => e = .returned (.bool true) ∧ Only (fun _ => False) w w' := by
  have HX := Lib.hid hR
  have HF := Lib.hid hf
  clear hR hf
  go_enter Try.func6, Try.ntmps6
  go_wp2_with (first | (go_at_call 8; refine (few_p oa n ca _ _ HF.out).mono ?_; rintro r w9 ⟨rfl, rfl⟩) | (go_at_call 10; ((with_reducible refine (Insert_any w oa n ca ts (by omega) hT).mono ?_); rw [HX.out]; rintro r w1 ⟨hO1, vo, rfl, hRo⟩)) | (go_at_call 9; refine (example_p _).mono ?_; rintro r w8 ⟨rfl, hO8⟩))
  go_ret
  exact ⟨rfl, (Only.alloc hO1 _).trans hO8⟩
set_option maxRecDepth 100000 in
set_option maxHeartbeats 8000000 in
theorem ExplL_ok (w : World) (oa : Option Addr) (n ca : Nat) (ts : List Tok) (hT : Tks w oa n ts) {rs : List Tok} (hR : insP ts = .ok rs) (hn : n ≤ 100000000000) (hf : decide (n ≤ 3000) = true) :
    Calls Try.prog 6 #[.slice oa n ca] w fun e w' => e = .returned (.bool true) ∧ Only (fun _ => False) w w' := by
  have HX := Lib.hid hR
  have HF := Lib.hid hf
  have HEX := Lib.hid (insP_expl hR)
  have HRB : Hid (rs.length ≤ 1000000000) := Lib.hid (by have := insP_len hR; omega)
  have HEB : Hid ((explL rs).length ≤ 100000000000) := Lib.hid (by rw [explL_len]; have := insP_len hR; omega)
  clear hR hf
  go_enter Try.func6, Try.ntmps6
  go_wp2_with (first | (go_at_call 8; refine (few_p oa n ca _ _ HF.out).mono ?_; rintro r w9 ⟨rfl, rfl⟩) | (go_at_call 10; ((with_reducible refine (Insert_any w oa n ca ts (by omega) hT).mono ?_); rw [HX.out]; rintro r w1 ⟨hO1, vo, rfl, hRo⟩; obtain ⟨os, cs, hvo⟩ := rowForm hRo; subst hvo)) | (go_at_call 15; ((with_reducible refine (Explicit_p _ os rs.length cs rs HRB.out (TR.tkz (hRo.only (Only.alloc (Only.refl (fun _ => False) _) _) (fun _ _ hc => hc)))).mono ?_); rintro r w2 ⟨⟨vo2, rfl, hR2⟩, hO2⟩; obtain ⟨o2, c2, hv2⟩ := rowForm hR2; subst hv2; have hP2 := Only.trans (Only.alloc hO1 _) hO2)) | (go_at_call 10; ((with_reducible refine (Insert_any _ o2 (explL rs).length c2 (explL rs) HEB.out (TR.tkz hR2)).mono ?_); rw [HEX.out]; rintro r w3 ⟨hO3, vo3, rfl, hR3⟩; obtain ⟨o3, c3, hv3⟩ := rowForm hR3; subst hv3; have hP3 := hP2.trans hO3)) | (go_at_call 12; ((with_reducible refine (SameEq_p _ o3 o2 (explL rs).length c3 c2 (explL rs) HEB.out (TR.tkz (hR3.only (Only.alloc (Only.refl (fun _ => False) _) _) (fun _ _ hc => hc))) (TR.tkz (hR2.only (Only.alloc hO3 _) (fun _ _ hc => hc)))).mono ?_); rintro r w4 ⟨rfl, hO4⟩; have hP4 := Only.trans (Only.alloc hP3 _) hO4)) | (go_at_call 9; refine (example_p _).mono ?_; rintro r w8 ⟨rfl, hO8⟩))
  go_ret
  exact ⟨rfl, hP4.trans hO8⟩
end Go.Proofs.Ytkdogaomlocijaa
