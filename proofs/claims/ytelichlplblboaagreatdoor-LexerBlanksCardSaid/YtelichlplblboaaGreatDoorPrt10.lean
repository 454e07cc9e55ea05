/-
  WALKS. Which tokens are not printable: names without a qualifier, names with a number.
-/
import Derived.Test.YtelichlplblboaaGreatDoorPrt0
namespace Go.Proofs.YtelichlplblboaaGreatDoor
open Go.RowKit Go.Maps
set_option maxRecDepth 100000 in
set_option maxHeartbeats 4000000 in
theorem printable_m3 (t : Tok) (W w : World) (hq : Q W w) (hop : t.op = 3) (hz : t.text.size ≤ 65536) (hz2 : t.qual.size ≤ 65536) (hno : isq t.qual = false ∨ (isq t.qual = true ∧ t.n ≠ 0)) :
    Calls Tryz.prog 27 #[tokV t] w fun e w' => e = .returned (.bool false) ∧ Only (fun _ => False) w w' := by
  obtain ⟨op, qual, text, n, auto, line, col⟩ := t
  obtain rfl : op = 3 := hop
  have hz' : text.size ≤ 65536 := hz
  have hz2' : qual.size ≤ 65536 := hz2
  clear hz hz2
  rcases hno with hqu | ⟨hqu, hn⟩
  · have HIQ : Hid (isq qual = false) := Lib.hid hqu
    clear hqu
    have hQ0 : Q W (tokA w ⟨3, qual, text, n, auto, line, col⟩) := hq.below ((Below.refl _ _).alloc (Nat.le_refl _) _)
    have hQd : Q W (tokA w ⟨3, qual, text, n, auto, line, col⟩).drew := hQ0.below (Below.refl _ _).drew
    have hOd : Only (fun _ => False) (tokA w ⟨3, qual, text, n, auto, line, col⟩) (tokA w ⟨3, qual, text, n, auto, line, col⟩).drew := (Only.refl _ _).drew
    have HA := tokA_only w ⟨3, qual, text, n, auto, line, col⟩
    go_enter Tryz.func27, Tryz.ntmps27
    go_wp2
    first | go_region_with (first | (go_at_call 73; refine (isQualifier_q _ false _ _ (by omega) HIQ.out (by assumption)).mono ?_; rintro e w1 ⟨rfl, hq1, hO1⟩; have hOn := Only.trans (by assumption : Only (fun _ => False) (tokA w _) _) hO1; obtain ⟨p0, p1, p2, p3, p4, p5, p6⟩ := tokA_tc' hOn)) | fail "no"
    all_goals
      go_wp2
      go_ret
      exact ⟨rfl, HA.trans (by assumption)⟩
  · have HIQ : Hid (isq qual = true) := Lib.hid hqu
    have hn' : (n == 0) = false := by simpa using hn
    clear hqu hn
    have hQ0 : Q W (tokA w ⟨3, qual, text, n, auto, line, col⟩) := hq.below ((Below.refl _ _).alloc (Nat.le_refl _) _)
    have hQd : Q W (tokA w ⟨3, qual, text, n, auto, line, col⟩).drew := hQ0.below (Below.refl _ _).drew
    have hOd : Only (fun _ => False) (tokA w ⟨3, qual, text, n, auto, line, col⟩) (tokA w ⟨3, qual, text, n, auto, line, col⟩).drew := (Only.refl _ _).drew
    have HA := tokA_only w ⟨3, qual, text, n, auto, line, col⟩
    go_enter Tryz.func27, Tryz.ntmps27
    go_wp2
    first | go_region_with (first | (go_at_call 73; refine (isQualifier_q _ true _ _ (by omega) HIQ.out (by assumption)).mono ?_; rintro e w1 ⟨rfl, hq1, hO1⟩; have hOn := Only.trans (by assumption : Only (fun _ => False) (tokA w _) _) hO1; obtain ⟨p0, p1, p2, p3, p4, p5, p6⟩ := tokA_tc' hOn)) | fail "no"
    all_goals
      go_wp2
      go_ret
      exact ⟨rfl, HA.trans (by assumption)⟩
set_option maxRecDepth 100000 in
set_option maxHeartbeats 4000000 in
theorem printable_m4 (t : Tok) (W w : World) (hq : Q W w) (hop : t.op = 4) (hz : t.text.size ≤ 65536) (hz2 : t.qual.size ≤ 65536) (hno : isq t.qual = false ∨ (isq t.qual = true ∧ t.n ≠ 0)) :
    Calls Tryz.prog 27 #[tokV t] w fun e w' => e = .returned (.bool false) ∧ Only (fun _ => False) w w' := by
  obtain ⟨op, qual, text, n, auto, line, col⟩ := t
  obtain rfl : op = 4 := hop
  have hz' : text.size ≤ 65536 := hz
  have hz2' : qual.size ≤ 65536 := hz2
  clear hz hz2
  rcases hno with hqu | ⟨hqu, hn⟩
  · have HIQ : Hid (isq qual = false) := Lib.hid hqu
    clear hqu
    have hQ0 : Q W (tokA w ⟨4, qual, text, n, auto, line, col⟩) := hq.below ((Below.refl _ _).alloc (Nat.le_refl _) _)
    have hQd : Q W (tokA w ⟨4, qual, text, n, auto, line, col⟩).drew := hQ0.below (Below.refl _ _).drew
    have hOd : Only (fun _ => False) (tokA w ⟨4, qual, text, n, auto, line, col⟩) (tokA w ⟨4, qual, text, n, auto, line, col⟩).drew := (Only.refl _ _).drew
    have HA := tokA_only w ⟨4, qual, text, n, auto, line, col⟩
    go_enter Tryz.func27, Tryz.ntmps27
    go_wp2
    first | go_region_with (first | (go_at_call 73; refine (isQualifier_q _ false _ _ (by omega) HIQ.out (by assumption)).mono ?_; rintro e w1 ⟨rfl, hq1, hO1⟩; have hOn := Only.trans (by assumption : Only (fun _ => False) (tokA w _) _) hO1; obtain ⟨p0, p1, p2, p3, p4, p5, p6⟩ := tokA_tc' hOn)) | fail "no"
    all_goals
      go_wp2
      go_ret
      exact ⟨rfl, HA.trans (by assumption)⟩
  · have HIQ : Hid (isq qual = true) := Lib.hid hqu
    have hn' : (n == 0) = false := by simpa using hn
    clear hqu hn
    have hQ0 : Q W (tokA w ⟨4, qual, text, n, auto, line, col⟩) := hq.below ((Below.refl _ _).alloc (Nat.le_refl _) _)
    have hQd : Q W (tokA w ⟨4, qual, text, n, auto, line, col⟩).drew := hQ0.below (Below.refl _ _).drew
    have hOd : Only (fun _ => False) (tokA w ⟨4, qual, text, n, auto, line, col⟩) (tokA w ⟨4, qual, text, n, auto, line, col⟩).drew := (Only.refl _ _).drew
    have HA := tokA_only w ⟨4, qual, text, n, auto, line, col⟩
    go_enter Tryz.func27, Tryz.ntmps27
    go_wp2
    first | go_region_with (first | (go_at_call 73; refine (isQualifier_q _ true _ _ (by omega) HIQ.out (by assumption)).mono ?_; rintro e w1 ⟨rfl, hq1, hO1⟩; have hOn := Only.trans (by assumption : Only (fun _ => False) (tokA w _) _) hO1; obtain ⟨p0, p1, p2, p3, p4, p5, p6⟩ := tokA_tc' hOn)) | fail "no"
    all_goals
      go_wp2
      go_ret
      exact ⟨rfl, HA.trans (by assumption)⟩
end Go.Proofs.YtelichlplblboaaGreatDoor
