/-
  WALKS. Which tokens are printable.
-/
import Derived.Test.YtelichlplblboaaGreatDoorPrt0
namespace Go.Proofs.YtelichlplblboaaGreatDoor
open Go.RowKit Go.Maps
set_option maxRecDepth 100000 in
set_option maxHeartbeats 2000000 in
theorem printable_sym (t : Tok) (W w : World) (hq : Q W w) (hop : t.op = 9 ∨ t.op = 10) (hz : t.text.size ≤ 65536) (hqu : t.qual.data.toList = []) (hn : t.n = 0) (hc : opo (cls t.text) = t.op) :
    Calls Tryz.prog 27 #[tokV t] w fun e w' => e = .returned (.bool true) ∧ Only (fun _ => False) w w' := by
  obtain ⟨op, qual, text, n, auto, line, col⟩ := t
  obtain rfl : n = 0 := hn
  obtain ⟨e1, e2, e3⟩ := empty_facts hqu
  have HC : Hid (opo (cls text) = op) := Lib.hid hc
  have hop' : op = 9 ∨ op = 10 := hop
  have hz' : text.size ≤ 65536 := hz
  clear hqu hc hop hz
  rcases hop' with rfl | rfl
  · have hQ0 : Q W (tokA w ⟨9, qual, text, 0, auto, line, col⟩) := hq.below ((Below.refl _ _).alloc (Nat.le_refl _) _)
    have hQd : Q W (tokA w ⟨9, qual, text, 0, auto, line, col⟩).drew := hQ0.below (Below.refl _ _).drew
    have hOd : Only (fun _ => False) (tokA w ⟨9, qual, text, 0, auto, line, col⟩) (tokA w ⟨9, qual, text, 0, auto, line, col⟩).drew := (Only.refl _ _).drew
    have HA := tokA_only w ⟨9, qual, text, 0, auto, line, col⟩
    go_enter Tryz.func27, Tryz.ntmps27
    go_wp2
    go_region_with (first | (go_at_call 72; refine (opOf_v _ 9 _ _ (by omega) HC.out (by assumption)).mono ?_; rintro e w1 ⟨rfl, hq1, hO1⟩; have hOn := Only.trans (by assumption : Only (fun _ => False) (tokA w _) _) hO1; obtain ⟨p0, p1, p2, p3, p4, p5, p6⟩ := tokA_tc' hOn))
    all_goals
      go_wp2
      go_ret
      exact ⟨rfl, HA.trans (by assumption)⟩
  · have hQ0 : Q W (tokA w ⟨10, qual, text, 0, auto, line, col⟩) := hq.below ((Below.refl _ _).alloc (Nat.le_refl _) _)
    have hQd : Q W (tokA w ⟨10, qual, text, 0, auto, line, col⟩).drew := hQ0.below (Below.refl _ _).drew
    have hOd : Only (fun _ => False) (tokA w ⟨10, qual, text, 0, auto, line, col⟩) (tokA w ⟨10, qual, text, 0, auto, line, col⟩).drew := (Only.refl _ _).drew
    have HA := tokA_only w ⟨10, qual, text, 0, auto, line, col⟩
    go_enter Tryz.func27, Tryz.ntmps27
    go_wp2
    go_region_with (first | (go_at_call 72; refine (opOf_v _ 10 _ _ (by omega) HC.out (by assumption)).mono ?_; rintro e w1 ⟨rfl, hq1, hO1⟩; have hOn := Only.trans (by assumption : Only (fun _ => False) (tokA w _) _) hO1; obtain ⟨p0, p1, p2, p3, p4, p5, p6⟩ := tokA_tc' hOn))
    all_goals
      go_wp2
      go_ret
      exact ⟨rfl, HA.trans (by assumption)⟩
set_option maxRecDepth 100000 in
set_option maxHeartbeats 2000000 in
theorem printable_name (t : Tok) (W w : World) (hq : Q W w) (hop : t.op = 1 ∨ t.op = 2 ∨ t.op = 3 ∨ t.op = 4) (hz : t.text.size ≤ 65536) (hz2 : t.qual.size ≤ 65536) (hqu : isq t.qual = true) (hn : t.n = 0) (hc : opo (cls t.text) = t.op) :
    Calls Tryz.prog 27 #[tokV t] w fun e w' => e = .returned (.bool true) ∧ Only (fun _ => False) w w' := by
  obtain ⟨op, qual, text, n, auto, line, col⟩ := t
  obtain rfl : n = 0 := hn
  have HC : Hid (opo (cls text) = op) := Lib.hid hc
  have HIQ : Hid (isq qual = true) := Lib.hid hqu
  have hop' : op = 1 ∨ op = 2 ∨ op = 3 ∨ op = 4 := hop
  have hz' : text.size ≤ 65536 := hz
  have hz2' : qual.size ≤ 65536 := hz2
  clear hqu hc hop hz hz2
  rcases hop' with rfl | rfl | rfl | rfl
  · have hQ0 : Q W (tokA w ⟨1, qual, text, 0, auto, line, col⟩) := hq.below ((Below.refl _ _).alloc (Nat.le_refl _) _)
    have hQd : Q W (tokA w ⟨1, qual, text, 0, auto, line, col⟩).drew := hQ0.below (Below.refl _ _).drew
    have hOd : Only (fun _ => False) (tokA w ⟨1, qual, text, 0, auto, line, col⟩) (tokA w ⟨1, qual, text, 0, auto, line, col⟩).drew := (Only.refl _ _).drew
    have HA := tokA_only w ⟨1, qual, text, 0, auto, line, col⟩
    go_enter Tryz.func27, Tryz.ntmps27
    go_wp2
    go_region_with (first | (go_at_call 72; refine (opOf_v _ 1 _ _ (by omega) HC.out (by assumption)).mono ?_; rintro e w1 ⟨rfl, hq1, hO1⟩; have hOn := Only.trans (by assumption : Only (fun _ => False) (tokA w _) _) hO1; obtain ⟨p0, p1, p2, p3, p4, p5, p6⟩ := tokA_tc' hOn) | (go_at_call 73; refine (isQualifier_q _ true _ _ (by omega) HIQ.out (by assumption)).mono ?_; rintro e w1 ⟨rfl, hq1, hO1⟩; have hOn := Only.trans (by assumption : Only (fun _ => False) (tokA w _) _) hO1; obtain ⟨p0, p1, p2, p3, p4, p5, p6⟩ := tokA_tc' hOn))
    all_goals
      go_wp2
      go_ret
      exact ⟨rfl, HA.trans (by assumption)⟩
  · have hQ0 : Q W (tokA w ⟨2, qual, text, 0, auto, line, col⟩) := hq.below ((Below.refl _ _).alloc (Nat.le_refl _) _)
    have hQd : Q W (tokA w ⟨2, qual, text, 0, auto, line, col⟩).drew := hQ0.below (Below.refl _ _).drew
    have hOd : Only (fun _ => False) (tokA w ⟨2, qual, text, 0, auto, line, col⟩) (tokA w ⟨2, qual, text, 0, auto, line, col⟩).drew := (Only.refl _ _).drew
    have HA := tokA_only w ⟨2, qual, text, 0, auto, line, col⟩
    go_enter Tryz.func27, Tryz.ntmps27
    go_wp2
    go_region_with (first | (go_at_call 72; refine (opOf_v _ 2 _ _ (by omega) HC.out (by assumption)).mono ?_; rintro e w1 ⟨rfl, hq1, hO1⟩; have hOn := Only.trans (by assumption : Only (fun _ => False) (tokA w _) _) hO1; obtain ⟨p0, p1, p2, p3, p4, p5, p6⟩ := tokA_tc' hOn) | (go_at_call 73; refine (isQualifier_q _ true _ _ (by omega) HIQ.out (by assumption)).mono ?_; rintro e w1 ⟨rfl, hq1, hO1⟩; have hOn := Only.trans (by assumption : Only (fun _ => False) (tokA w _) _) hO1; obtain ⟨p0, p1, p2, p3, p4, p5, p6⟩ := tokA_tc' hOn))
    all_goals
      go_wp2
      go_ret
      exact ⟨rfl, HA.trans (by assumption)⟩
  · have hQ0 : Q W (tokA w ⟨3, qual, text, 0, auto, line, col⟩) := hq.below ((Below.refl _ _).alloc (Nat.le_refl _) _)
    have hQd : Q W (tokA w ⟨3, qual, text, 0, auto, line, col⟩).drew := hQ0.below (Below.refl _ _).drew
    have hOd : Only (fun _ => False) (tokA w ⟨3, qual, text, 0, auto, line, col⟩) (tokA w ⟨3, qual, text, 0, auto, line, col⟩).drew := (Only.refl _ _).drew
    have HA := tokA_only w ⟨3, qual, text, 0, auto, line, col⟩
    go_enter Tryz.func27, Tryz.ntmps27
    go_wp2
    go_region_with (first | (go_at_call 72; refine (opOf_v _ 3 _ _ (by omega) HC.out (by assumption)).mono ?_; rintro e w1 ⟨rfl, hq1, hO1⟩; have hOn := Only.trans (by assumption : Only (fun _ => False) (tokA w _) _) hO1; obtain ⟨p0, p1, p2, p3, p4, p5, p6⟩ := tokA_tc' hOn) | (go_at_call 73; refine (isQualifier_q _ true _ _ (by omega) HIQ.out (by assumption)).mono ?_; rintro e w1 ⟨rfl, hq1, hO1⟩; have hOn := Only.trans (by assumption : Only (fun _ => False) (tokA w _) _) hO1; obtain ⟨p0, p1, p2, p3, p4, p5, p6⟩ := tokA_tc' hOn))
    all_goals
      go_wp2
      go_ret
      exact ⟨rfl, HA.trans (by assumption)⟩
  · have hQ0 : Q W (tokA w ⟨4, qual, text, 0, auto, line, col⟩) := hq.below ((Below.refl _ _).alloc (Nat.le_refl _) _)
    have hQd : Q W (tokA w ⟨4, qual, text, 0, auto, line, col⟩).drew := hQ0.below (Below.refl _ _).drew
    have hOd : Only (fun _ => False) (tokA w ⟨4, qual, text, 0, auto, line, col⟩) (tokA w ⟨4, qual, text, 0, auto, line, col⟩).drew := (Only.refl _ _).drew
    have HA := tokA_only w ⟨4, qual, text, 0, auto, line, col⟩
    go_enter Tryz.func27, Tryz.ntmps27
    go_wp2
    go_region_with (first | (go_at_call 72; refine (opOf_v _ 4 _ _ (by omega) HC.out (by assumption)).mono ?_; rintro e w1 ⟨rfl, hq1, hO1⟩; have hOn := Only.trans (by assumption : Only (fun _ => False) (tokA w _) _) hO1; obtain ⟨p0, p1, p2, p3, p4, p5, p6⟩ := tokA_tc' hOn) | (go_at_call 73; refine (isQualifier_q _ true _ _ (by omega) HIQ.out (by assumption)).mono ?_; rintro e w1 ⟨rfl, hq1, hO1⟩; have hOn := Only.trans (by assumption : Only (fun _ => False) (tokA w _) _) hO1; obtain ⟨p0, p1, p2, p3, p4, p5, p6⟩ := tokA_tc' hOn))
    all_goals
      go_wp2
      go_ret
      exact ⟨rfl, HA.trans (by assumption)⟩
end Go.Proofs.YtelichlplblboaaGreatDoor
