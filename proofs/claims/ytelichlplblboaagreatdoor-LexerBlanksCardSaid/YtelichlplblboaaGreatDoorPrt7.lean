/-
  WALKS. Which tokens are not printable: names.
-/
import Derived.Test.YtelichlplblboaaGreatDoorPrt0
namespace Go.Proofs.YtelichlplblboaaGreatDoor
open Go.RowKit Go.Maps
set_option maxRecDepth 100000 in
set_option maxHeartbeats 4000000 in
theorem printable_n1 (t : Tok) (W w : World) (hq : Q W w) (hop : t.op = 1) (hz : t.text.size ≤ 65536) (hz2 : t.qual.size ≤ 65536) (hqu : isq t.qual = true) (hn : t.n = 0) (hc : opo (cls t.text) ≠ 1) :
    Calls Tryz.prog 27 #[tokV t] w fun e w' => e = .returned (.bool false) ∧ Only (fun _ => False) w w' := by
  obtain ⟨op, qual, text, n, auto, line, col⟩ := t
  obtain rfl : op = 1 := hop
  have hz' : text.size ≤ 65536 := hz
  have hz2' : qual.size ≤ 65536 := hz2
  clear hz hz2
  · have HIQ : Hid (isq qual = true) := Lib.hid hqu
    obtain rfl : n = 0 := hn
    obtain ⟨v, hv⟩ : ∃ v, opo (cls text) = v := ⟨_, rfl⟩
    have HC := Lib.hid hv
    have hvn : (v == 1) = false := by rw [← hv]; simpa using hc
    clear hqu hc hv
    have hQ0 : Q W (tokA w ⟨1, qual, text, 0, auto, line, col⟩) := hq.below ((Below.refl _ _).alloc (Nat.le_refl _) _)
    have hQd : Q W (tokA w ⟨1, qual, text, 0, auto, line, col⟩).drew := hQ0.below (Below.refl _ _).drew
    have hOd : Only (fun _ => False) (tokA w ⟨1, qual, text, 0, auto, line, col⟩) (tokA w ⟨1, qual, text, 0, auto, line, col⟩).drew := (Only.refl _ _).drew
    have HA := tokA_only w ⟨1, qual, text, 0, auto, line, col⟩
    go_enter Tryz.func27, Tryz.ntmps27
    go_wp2
    go_region_with (first | (go_at_call 72; refine (opOf_v _ v _ _ (by omega) HC.out (by assumption)).mono ?_; rintro e w1 ⟨rfl, hq1, hO1⟩; have hOn := Only.trans (by assumption : Only (fun _ => False) (tokA w _) _) hO1; obtain ⟨p0, p1, p2, p3, p4, p5, p6⟩ := tokA_tc' hOn) | (go_at_call 73; refine (isQualifier_q _ true _ _ (by omega) HIQ.out (by assumption)).mono ?_; rintro e w1 ⟨rfl, hq1, hO1⟩; have hOn := Only.trans (by assumption : Only (fun _ => False) (tokA w _) _) hO1; obtain ⟨p0, p1, p2, p3, p4, p5, p6⟩ := tokA_tc' hOn))
    all_goals
      go_wp2
      go_ret
      exact ⟨rfl, HA.trans (by assumption)⟩
set_option maxRecDepth 100000 in
set_option maxHeartbeats 4000000 in
theorem printable_n2 (t : Tok) (W w : World) (hq : Q W w) (hop : t.op = 2) (hz : t.text.size ≤ 65536) (hz2 : t.qual.size ≤ 65536) (hqu : isq t.qual = true) (hn : t.n = 0) (hc : opo (cls t.text) ≠ 2) :
    Calls Tryz.prog 27 #[tokV t] w fun e w' => e = .returned (.bool false) ∧ Only (fun _ => False) w w' := by
  obtain ⟨op, qual, text, n, auto, line, col⟩ := t
  obtain rfl : op = 2 := hop
  have hz' : text.size ≤ 65536 := hz
  have hz2' : qual.size ≤ 65536 := hz2
  clear hz hz2
  · have HIQ : Hid (isq qual = true) := Lib.hid hqu
    obtain rfl : n = 0 := hn
    obtain ⟨v, hv⟩ : ∃ v, opo (cls text) = v := ⟨_, rfl⟩
    have HC := Lib.hid hv
    have hvn : (v == 2) = false := by rw [← hv]; simpa using hc
    clear hqu hc hv
    have hQ0 : Q W (tokA w ⟨2, qual, text, 0, auto, line, col⟩) := hq.below ((Below.refl _ _).alloc (Nat.le_refl _) _)
    have hQd : Q W (tokA w ⟨2, qual, text, 0, auto, line, col⟩).drew := hQ0.below (Below.refl _ _).drew
    have hOd : Only (fun _ => False) (tokA w ⟨2, qual, text, 0, auto, line, col⟩) (tokA w ⟨2, qual, text, 0, auto, line, col⟩).drew := (Only.refl _ _).drew
    have HA := tokA_only w ⟨2, qual, text, 0, auto, line, col⟩
    go_enter Tryz.func27, Tryz.ntmps27
    go_wp2
    go_region_with (first | (go_at_call 72; refine (opOf_v _ v _ _ (by omega) HC.out (by assumption)).mono ?_; rintro e w1 ⟨rfl, hq1, hO1⟩; have hOn := Only.trans (by assumption : Only (fun _ => False) (tokA w _) _) hO1; obtain ⟨p0, p1, p2, p3, p4, p5, p6⟩ := tokA_tc' hOn) | (go_at_call 73; refine (isQualifier_q _ true _ _ (by omega) HIQ.out (by assumption)).mono ?_; rintro e w1 ⟨rfl, hq1, hO1⟩; have hOn := Only.trans (by assumption : Only (fun _ => False) (tokA w _) _) hO1; obtain ⟨p0, p1, p2, p3, p4, p5, p6⟩ := tokA_tc' hOn))
    all_goals
      go_wp2
      go_ret
      exact ⟨rfl, HA.trans (by assumption)⟩
set_option maxRecDepth 100000 in
set_option maxHeartbeats 4000000 in
theorem printable_n3 (t : Tok) (W w : World) (hq : Q W w) (hop : t.op = 3) (hz : t.text.size ≤ 65536) (hz2 : t.qual.size ≤ 65536) (hqu : isq t.qual = true) (hn : t.n = 0) (hc : opo (cls t.text) ≠ 3) :
    Calls Tryz.prog 27 #[tokV t] w fun e w' => e = .returned (.bool false) ∧ Only (fun _ => False) w w' := by
  obtain ⟨op, qual, text, n, auto, line, col⟩ := t
  obtain rfl : op = 3 := hop
  have hz' : text.size ≤ 65536 := hz
  have hz2' : qual.size ≤ 65536 := hz2
  clear hz hz2
  · have HIQ : Hid (isq qual = true) := Lib.hid hqu
    obtain rfl : n = 0 := hn
    obtain ⟨v, hv⟩ : ∃ v, opo (cls text) = v := ⟨_, rfl⟩
    have HC := Lib.hid hv
    have hvn : (v == 3) = false := by rw [← hv]; simpa using hc
    clear hqu hc hv
    have hQ0 : Q W (tokA w ⟨3, qual, text, 0, auto, line, col⟩) := hq.below ((Below.refl _ _).alloc (Nat.le_refl _) _)
    have hQd : Q W (tokA w ⟨3, qual, text, 0, auto, line, col⟩).drew := hQ0.below (Below.refl _ _).drew
    have hOd : Only (fun _ => False) (tokA w ⟨3, qual, text, 0, auto, line, col⟩) (tokA w ⟨3, qual, text, 0, auto, line, col⟩).drew := (Only.refl _ _).drew
    have HA := tokA_only w ⟨3, qual, text, 0, auto, line, col⟩
    go_enter Tryz.func27, Tryz.ntmps27
    go_wp2
    go_region_with (first | (go_at_call 72; refine (opOf_v _ v _ _ (by omega) HC.out (by assumption)).mono ?_; rintro e w1 ⟨rfl, hq1, hO1⟩; have hOn := Only.trans (by assumption : Only (fun _ => False) (tokA w _) _) hO1; obtain ⟨p0, p1, p2, p3, p4, p5, p6⟩ := tokA_tc' hOn) | (go_at_call 73; refine (isQualifier_q _ true _ _ (by omega) HIQ.out (by assumption)).mono ?_; rintro e w1 ⟨rfl, hq1, hO1⟩; have hOn := Only.trans (by assumption : Only (fun _ => False) (tokA w _) _) hO1; obtain ⟨p0, p1, p2, p3, p4, p5, p6⟩ := tokA_tc' hOn))
    all_goals
      go_wp2
      go_ret
      exact ⟨rfl, HA.trans (by assumption)⟩
set_option maxRecDepth 100000 in
set_option maxHeartbeats 4000000 in
theorem printable_n4 (t : Tok) (W w : World) (hq : Q W w) (hop : t.op = 4) (hz : t.text.size ≤ 65536) (hz2 : t.qual.size ≤ 65536) (hqu : isq t.qual = true) (hn : t.n = 0) (hc : opo (cls t.text) ≠ 4) :
    Calls Tryz.prog 27 #[tokV t] w fun e w' => e = .returned (.bool false) ∧ Only (fun _ => False) w w' := by
  obtain ⟨op, qual, text, n, auto, line, col⟩ := t
  obtain rfl : op = 4 := hop
  have hz' : text.size ≤ 65536 := hz
  have hz2' : qual.size ≤ 65536 := hz2
  clear hz hz2
  · have HIQ : Hid (isq qual = true) := Lib.hid hqu
    obtain rfl : n = 0 := hn
    obtain ⟨v, hv⟩ : ∃ v, opo (cls text) = v := ⟨_, rfl⟩
    have HC := Lib.hid hv
    have hvn : (v == 4) = false := by rw [← hv]; simpa using hc
    clear hqu hc hv
    have hQ0 : Q W (tokA w ⟨4, qual, text, 0, auto, line, col⟩) := hq.below ((Below.refl _ _).alloc (Nat.le_refl _) _)
    have hQd : Q W (tokA w ⟨4, qual, text, 0, auto, line, col⟩).drew := hQ0.below (Below.refl _ _).drew
    have hOd : Only (fun _ => False) (tokA w ⟨4, qual, text, 0, auto, line, col⟩) (tokA w ⟨4, qual, text, 0, auto, line, col⟩).drew := (Only.refl _ _).drew
    have HA := tokA_only w ⟨4, qual, text, 0, auto, line, col⟩
    go_enter Tryz.func27, Tryz.ntmps27
    go_wp2
    go_region_with (first | (go_at_call 72; refine (opOf_v _ v _ _ (by omega) HC.out (by assumption)).mono ?_; rintro e w1 ⟨rfl, hq1, hO1⟩; have hOn := Only.trans (by assumption : Only (fun _ => False) (tokA w _) _) hO1; obtain ⟨p0, p1, p2, p3, p4, p5, p6⟩ := tokA_tc' hOn) | (go_at_call 73; refine (isQualifier_q _ true _ _ (by omega) HIQ.out (by assumption)).mono ?_; rintro e w1 ⟨rfl, hq1, hO1⟩; have hOn := Only.trans (by assumption : Only (fun _ => False) (tokA w _) _) hO1; obtain ⟨p0, p1, p2, p3, p4, p5, p6⟩ := tokA_tc' hOn))
    all_goals
      go_wp2
      go_ret
      exact ⟨rfl, HA.trans (by assumption)⟩
end Go.Proofs.YtelichlplblboaaGreatDoor
