/-
  WALKS. The reference: Printable, class by class.
  WALKS. The reference: Printable, names.
  WALKS. The reference: Printable, literals, words.
  WALKS. The reference: Printable, of every token.
-/
import Derived.Test.YtelichlplblboaaGreatDoorRqa
namespace Go.Proofs.YtelichlplblboaaGreatDoor
open Go.RowKit Go.Maps
set_option maxRecDepth 100000 in
set_option maxHeartbeats 4000000 in
theorem rprt_badq (t : Tok) (W w : World) (hq : Q W w) (hz : t.text.size ≤ 65536) (hz2 : t.qual.size ≤ 65536) (h1 : t.qual.data.toList ≠ []) (h2 : cls t.qual ≠ 2) :
    Calls Tryz.prog 31 #[tokV t] w fun e w' => e = .returned (.bool (prT t)) ∧ Only (fun _ => False) w w' := by
  rw [prT_badq h1 h2]
  obtain ⟨op, qual, text, n, auto, line, col⟩ := t
  have hz' : text.size ≤ 65536 := hz
  have hz2' : qual.size ≤ 65536 := hz2
  obtain ⟨c, hc⟩ : ∃ c, cls text = c := ⟨_, rfl⟩
  have HC := Lib.hid hc
  obtain ⟨d, hd⟩ : ∃ d, cls qual = d := ⟨_, rfl⟩
  have HD := Lib.hid hd
  have hQ0 : Q W (tokA w ⟨op, qual, text, n, auto, line, col⟩) := hq.below ((Below.refl _ _).alloc (Nat.le_refl _) _)
  have HA := tokA_only w ⟨op, qual, text, n, auto, line, col⟩
  obtain ⟨e1, e2, e3⟩ := full_facts h1
  have e4 : (d != 2) = true := by rw [← hd]; simpa using h2
  clear hz hz2 hc hd h1 h2
  go_enter Tryz.func31, Tryz.ntmps31
  go_wp2_with (go_loud (first | (go_at_call 78; ((with_reducible refine (rClassify_v text c W _ hz' HC.out (by assumption)).mono ?_); rintro e w1 ⟨rfl, hq1, hO1x⟩; have hO1 : Only (fun _ => False) (tokA w ⟨op, qual, text, n, auto, line, col⟩) w1 := hO1x; obtain ⟨p0, p1, p2, p3, p4, p5, p6⟩ := tokA_tc' hO1)) | (go_at_call 78; ((with_reducible refine (rClassify_v qual d W _ hz2' HD.out (by assumption)).mono ?_); rintro e w2 ⟨rfl, hq2, hO2⟩; have hO12 := hO1.trans hO2; obtain ⟨r0, r1, r2, r3, r4, r5, r6⟩ := tokA_tc' hO12))))
  all_goals (go_ret; first | exact ⟨rfl, HA.trans hO12⟩ | exact ⟨rfl, HA.trans hO1⟩ | exact ⟨ret_bool (by simp; omega), HA.trans hO1⟩ | exact ⟨ret_bool (by simp [*]), HA.trans hO1⟩)
set_option maxRecDepth 100000 in
set_option maxHeartbeats 4000000 in
theorem rprt_noq (t : Tok) (W w : World) (hq : Q W w) (hz : t.text.size ≤ 65536) (hz2 : t.qual.size ≤ 65536) (h1 : t.qual.data.toList ≠ []) (h2 : cls t.qual = 2) (ho : t.op < 1 ∨ 4 < t.op) :
    Calls Tryz.prog 31 #[tokV t] w fun e w' => e = .returned (.bool (prT t)) ∧ Only (fun _ => False) w w' := by
  rw [prT_noq h1 ho]
  obtain ⟨op, qual, text, n, auto, line, col⟩ := t
  have hz' : text.size ≤ 65536 := hz
  have hz2' : qual.size ≤ 65536 := hz2
  obtain ⟨c, hc⟩ : ∃ c, cls text = c := ⟨_, rfl⟩
  have HC := Lib.hid hc
  obtain ⟨d, hd⟩ : ∃ d, cls qual = d := ⟨_, rfl⟩
  have HD := Lib.hid hd
  have hQ0 : Q W (tokA w ⟨op, qual, text, n, auto, line, col⟩) := hq.below ((Below.refl _ _).alloc (Nat.le_refl _) _)
  have HA := tokA_only w ⟨op, qual, text, n, auto, line, col⟩
  obtain ⟨e1, e2, e3⟩ := full_facts h1
  have e4 : (d != 2) = false := by rw [← hd]; simpa using h2
  have k1 : (op == 1) = false := by simp only at ho; simp; omega
  have k2 : (op == 2) = false := by simp only at ho; simp; omega
  have k3 : (op == 3) = false := by simp only at ho; simp; omega
  have k4 : (op == 4) = false := by simp only at ho; simp; omega
  clear hz hz2 hc hd h1 h2 ho
  go_enter Tryz.func31, Tryz.ntmps31
  go_wp2_with (go_loud (first | (go_at_call 78; ((with_reducible refine (rClassify_v text c W _ hz' HC.out (by assumption)).mono ?_); rintro e w1 ⟨rfl, hq1, hO1x⟩; have hO1 : Only (fun _ => False) (tokA w ⟨op, qual, text, n, auto, line, col⟩) w1 := hO1x; obtain ⟨p0, p1, p2, p3, p4, p5, p6⟩ := tokA_tc' hO1)) | (go_at_call 78; ((with_reducible refine (rClassify_v qual d W _ hz2' HD.out (by assumption)).mono ?_); rintro e w2 ⟨rfl, hq2, hO2⟩; have hO12 := hO1.trans hO2; obtain ⟨r0, r1, r2, r3, r4, r5, r6⟩ := tokA_tc' hO12))))
  all_goals (go_ret; first | exact ⟨rfl, HA.trans hO12⟩ | exact ⟨rfl, HA.trans hO1⟩ | exact ⟨ret_bool (by simp; omega), HA.trans hO1⟩ | exact ⟨ret_bool (by simp [*]), HA.trans hO1⟩)
set_option maxRecDepth 100000 in
set_option maxHeartbeats 4000000 in
theorem rprt_not (t : Tok) (W w : World) (hq : Q W w) (hz : t.text.size ≤ 65536) (hz2 : t.qual.size ≤ 65536) (h1 : t.qual.data.toList = []) (ho : t.op < 1 ∨ 10 < t.op) :
    Calls Tryz.prog 31 #[tokV t] w fun e w' => e = .returned (.bool (prT t)) ∧ Only (fun _ => False) w w' := by
  rw [prT_not ho]
  obtain ⟨op, qual, text, n, auto, line, col⟩ := t
  have hz' : text.size ≤ 65536 := hz
  have hz2' : qual.size ≤ 65536 := hz2
  obtain ⟨c, hc⟩ : ∃ c, cls text = c := ⟨_, rfl⟩
  have HC := Lib.hid hc
  obtain ⟨d, hd⟩ : ∃ d, cls qual = d := ⟨_, rfl⟩
  have HD := Lib.hid hd
  have hQ0 : Q W (tokA w ⟨op, qual, text, n, auto, line, col⟩) := hq.below ((Below.refl _ _).alloc (Nat.le_refl _) _)
  have HA := tokA_only w ⟨op, qual, text, n, auto, line, col⟩
  obtain ⟨e1, e2, e3⟩ := empty_facts h1
  have k1 : (op == 1) = false := by simp only at ho; simp; omega
  have k2 : (op == 2) = false := by simp only at ho; simp; omega
  have k3 : (op == 3) = false := by simp only at ho; simp; omega
  have k4 : (op == 4) = false := by simp only at ho; simp; omega
  have k5 : (op == 5) = false := by simp only at ho; simp; omega
  have k6 : (op == 6) = false := by simp only at ho; simp; omega
  have k7 : (op == 7) = false := by simp only at ho; simp; omega
  have k8 : (op == 8) = false := by simp only at ho; simp; omega
  have k9 : (op == 9) = false := by simp only at ho; simp; omega
  have k10 : (op == 10) = false := by simp only at ho; simp; omega
  clear hz hz2 hc hd h1 ho
  go_enter Tryz.func31, Tryz.ntmps31
  go_wp2_with (go_loud (first | (go_at_call 78; ((with_reducible refine (rClassify_v text c W _ hz' HC.out (by assumption)).mono ?_); rintro e w1 ⟨rfl, hq1, hO1x⟩; have hO1 : Only (fun _ => False) (tokA w ⟨op, qual, text, n, auto, line, col⟩) w1 := hO1x; obtain ⟨p0, p1, p2, p3, p4, p5, p6⟩ := tokA_tc' hO1))))
  all_goals (go_ret; first | exact ⟨rfl, HA.trans hO12⟩ | exact ⟨rfl, HA.trans hO1⟩ | exact ⟨ret_bool (by simp; omega), HA.trans hO1⟩ | exact ⟨ret_bool (by simp [*]), HA.trans hO1⟩)
end Go.Proofs.YtelichlplblboaaGreatDoor
namespace Go.Proofs.YtelichlplblboaaGreatDoor
open Go.RowKit Go.Maps
set_option maxRecDepth 100000 in
set_option maxHeartbeats 4000000 in
theorem rprt_1 (t : Tok) (W w : World) (hq : Q W w) (hz : t.text.size ≤ 65536) (hz2 : t.qual.size ≤ 65536) (hop : t.op = 1) (h1 : t.qual.data.toList = [] ∨ (t.qual.data.toList ≠ [] ∧ cls t.qual = 2)) :
    Calls Tryz.prog 31 #[tokV t] w fun e w' => e = .returned (.bool (prT t)) ∧ Only (fun _ => False) w w' := by
  obtain ⟨op, qual, text, n, auto, line, col⟩ := t
  obtain rfl : op = 1 := hop
  have hz' : text.size ≤ 65536 := hz
  have hz2' : qual.size ≤ 65536 := hz2
  obtain ⟨c, hc⟩ : ∃ c, cls text = c := ⟨_, rfl⟩
  have HC := Lib.hid hc
  obtain ⟨d, hd⟩ : ∃ d, cls qual = d := ⟨_, rfl⟩
  have HD := Lib.hid hd
  have hQ0 : Q W (tokA w ⟨1, qual, text, n, auto, line, col⟩) := hq.below ((Below.refl _ _).alloc (Nat.le_refl _) _)
  have HA := tokA_only w ⟨1, qual, text, n, auto, line, col⟩
  have hcb := cls_bd text
  rw [hc] at hcb
  have hcases : ((n == 0) = false ∧ prT ⟨1, qual, text, n, auto, line, col⟩ = false) ∨ ((n == 0) = true ∧ (c == 1) = false ∧ prT ⟨1, qual, text, n, auto, line, col⟩ = false) ∨ ((n == 0) = true ∧ (c == 1) = true ∧ prT ⟨1, qual, text, n, auto, line, col⟩ = true) := by
    have hI : isq qual = true := by
      unfold isq
      rcases h1 with h | ⟨_, h⟩
      · simp only at h; rw [h]; rfl
      · simp only at h; rw [h]; simp
    have hP : prT ⟨1, qual, text, n, auto, line, col⟩ = ((n == 0) && (c == 1)) := by
      unfold prT
      simp only
      rw [if_neg (by decide), if_neg (by decide), if_neg (by decide), if_neg (by decide), if_neg (by decide), if_pos (by decide), hI, hc, opo_eq (by decide) hcb]
      simp
    rw [hP]
    cases h : (n == 0) <;> cases h' : (c == 1) <;> simp
  rcases h1 with h1 | ⟨h1, h2⟩
  · obtain ⟨e1, e2, e3⟩ := empty_facts h1
    clear hz hz2 hc hd h1 hcb
    rcases hcases with ⟨en, hP⟩ | ⟨en, ec, hP⟩ | ⟨en, ec, hP⟩
    all_goals
      rw [hP]
      clear hP
      go_enter Tryz.func31, Tryz.ntmps31
      go_wp2_with (go_loud (first | (go_at_call 78; ((with_reducible refine (rClassify_v text c W _ hz' HC.out (by assumption)).mono ?_); rintro e w1 ⟨rfl, hq1, hO1x⟩; have hO1 : Only (fun _ => False) (tokA w ⟨1, qual, text, n, auto, line, col⟩) w1 := hO1x; obtain ⟨p0, p1, p2, p3, p4, p5, p6⟩ := tokA_tc' hO1))))
      all_goals (go_ret; first | exact ⟨rfl, HA.trans hO12⟩ | exact ⟨rfl, HA.trans hO1⟩ | exact ⟨ret_bool (by simp; omega), HA.trans hO1⟩ | exact ⟨ret_bool (by simp [*]), HA.trans hO1⟩)
  · obtain ⟨e1, e2, e3⟩ := full_facts h1
    have e4 : (d != 2) = false := by rw [← hd]; simpa using h2
    clear hz hz2 hc hd h1 h2 hcb
    rcases hcases with ⟨en, hP⟩ | ⟨en, ec, hP⟩ | ⟨en, ec, hP⟩
    all_goals
      rw [hP]
      clear hP
      go_enter Tryz.func31, Tryz.ntmps31
      go_wp2_with (go_loud (first | (go_at_call 78; ((with_reducible refine (rClassify_v text c W _ hz' HC.out (by assumption)).mono ?_); rintro e w1 ⟨rfl, hq1, hO1x⟩; have hO1 : Only (fun _ => False) (tokA w ⟨1, qual, text, n, auto, line, col⟩) w1 := hO1x; obtain ⟨p0, p1, p2, p3, p4, p5, p6⟩ := tokA_tc' hO1)) | (go_at_call 78; ((with_reducible refine (rClassify_v qual d W _ hz2' HD.out (by assumption)).mono ?_); rintro e w2 ⟨rfl, hq2, hO2⟩; have hO12 := hO1.trans hO2; obtain ⟨r0, r1, r2, r3, r4, r5, r6⟩ := tokA_tc' hO12))))
      all_goals (go_ret; first | exact ⟨rfl, HA.trans hO12⟩ | exact ⟨rfl, HA.trans hO1⟩ | exact ⟨ret_bool (by simp; omega), HA.trans hO1⟩ | exact ⟨ret_bool (by simp [*]), HA.trans hO1⟩)
set_option maxRecDepth 100000 in
set_option maxHeartbeats 4000000 in
theorem rprt_2 (t : Tok) (W w : World) (hq : Q W w) (hz : t.text.size ≤ 65536) (hz2 : t.qual.size ≤ 65536) (hop : t.op = 2) (h1 : t.qual.data.toList = [] ∨ (t.qual.data.toList ≠ [] ∧ cls t.qual = 2)) :
    Calls Tryz.prog 31 #[tokV t] w fun e w' => e = .returned (.bool (prT t)) ∧ Only (fun _ => False) w w' := by
  obtain ⟨op, qual, text, n, auto, line, col⟩ := t
  obtain rfl : op = 2 := hop
  have hz' : text.size ≤ 65536 := hz
  have hz2' : qual.size ≤ 65536 := hz2
  obtain ⟨c, hc⟩ : ∃ c, cls text = c := ⟨_, rfl⟩
  have HC := Lib.hid hc
  obtain ⟨d, hd⟩ : ∃ d, cls qual = d := ⟨_, rfl⟩
  have HD := Lib.hid hd
  have hQ0 : Q W (tokA w ⟨2, qual, text, n, auto, line, col⟩) := hq.below ((Below.refl _ _).alloc (Nat.le_refl _) _)
  have HA := tokA_only w ⟨2, qual, text, n, auto, line, col⟩
  have hcb := cls_bd text
  rw [hc] at hcb
  have hcases : ((n == 0) = false ∧ prT ⟨2, qual, text, n, auto, line, col⟩ = false) ∨ ((n == 0) = true ∧ (c == 2) = false ∧ prT ⟨2, qual, text, n, auto, line, col⟩ = false) ∨ ((n == 0) = true ∧ (c == 2) = true ∧ prT ⟨2, qual, text, n, auto, line, col⟩ = true) := by
    have hI : isq qual = true := by
      unfold isq
      rcases h1 with h | ⟨_, h⟩
      · simp only at h; rw [h]; rfl
      · simp only at h; rw [h]; simp
    have hP : prT ⟨2, qual, text, n, auto, line, col⟩ = ((n == 0) && (c == 2)) := by
      unfold prT
      simp only
      rw [if_neg (by decide), if_neg (by decide), if_neg (by decide), if_neg (by decide), if_neg (by decide), if_pos (by decide), hI, hc, opo_eq (by decide) hcb]
      simp
    rw [hP]
    cases h : (n == 0) <;> cases h' : (c == 2) <;> simp
  rcases h1 with h1 | ⟨h1, h2⟩
  · obtain ⟨e1, e2, e3⟩ := empty_facts h1
    clear hz hz2 hc hd h1 hcb
    rcases hcases with ⟨en, hP⟩ | ⟨en, ec, hP⟩ | ⟨en, ec, hP⟩
    all_goals
      rw [hP]
      clear hP
      go_enter Tryz.func31, Tryz.ntmps31
      go_wp2_with (go_loud (first | (go_at_call 78; ((with_reducible refine (rClassify_v text c W _ hz' HC.out (by assumption)).mono ?_); rintro e w1 ⟨rfl, hq1, hO1x⟩; have hO1 : Only (fun _ => False) (tokA w ⟨2, qual, text, n, auto, line, col⟩) w1 := hO1x; obtain ⟨p0, p1, p2, p3, p4, p5, p6⟩ := tokA_tc' hO1))))
      all_goals (go_ret; first | exact ⟨rfl, HA.trans hO12⟩ | exact ⟨rfl, HA.trans hO1⟩ | exact ⟨ret_bool (by simp; omega), HA.trans hO1⟩ | exact ⟨ret_bool (by simp [*]), HA.trans hO1⟩)
  · obtain ⟨e1, e2, e3⟩ := full_facts h1
    have e4 : (d != 2) = false := by rw [← hd]; simpa using h2
    clear hz hz2 hc hd h1 h2 hcb
    rcases hcases with ⟨en, hP⟩ | ⟨en, ec, hP⟩ | ⟨en, ec, hP⟩
    all_goals
      rw [hP]
      clear hP
      go_enter Tryz.func31, Tryz.ntmps31
      go_wp2_with (go_loud (first | (go_at_call 78; ((with_reducible refine (rClassify_v text c W _ hz' HC.out (by assumption)).mono ?_); rintro e w1 ⟨rfl, hq1, hO1x⟩; have hO1 : Only (fun _ => False) (tokA w ⟨2, qual, text, n, auto, line, col⟩) w1 := hO1x; obtain ⟨p0, p1, p2, p3, p4, p5, p6⟩ := tokA_tc' hO1)) | (go_at_call 78; ((with_reducible refine (rClassify_v qual d W _ hz2' HD.out (by assumption)).mono ?_); rintro e w2 ⟨rfl, hq2, hO2⟩; have hO12 := hO1.trans hO2; obtain ⟨r0, r1, r2, r3, r4, r5, r6⟩ := tokA_tc' hO12))))
      all_goals (go_ret; first | exact ⟨rfl, HA.trans hO12⟩ | exact ⟨rfl, HA.trans hO1⟩ | exact ⟨ret_bool (by simp; omega), HA.trans hO1⟩ | exact ⟨ret_bool (by simp [*]), HA.trans hO1⟩)
set_option maxRecDepth 100000 in
set_option maxHeartbeats 4000000 in
theorem rprt_3 (t : Tok) (W w : World) (hq : Q W w) (hz : t.text.size ≤ 65536) (hz2 : t.qual.size ≤ 65536) (hop : t.op = 3) (h1 : t.qual.data.toList = [] ∨ (t.qual.data.toList ≠ [] ∧ cls t.qual = 2)) :
    Calls Tryz.prog 31 #[tokV t] w fun e w' => e = .returned (.bool (prT t)) ∧ Only (fun _ => False) w w' := by
  obtain ⟨op, qual, text, n, auto, line, col⟩ := t
  obtain rfl : op = 3 := hop
  have hz' : text.size ≤ 65536 := hz
  have hz2' : qual.size ≤ 65536 := hz2
  obtain ⟨c, hc⟩ : ∃ c, cls text = c := ⟨_, rfl⟩
  have HC := Lib.hid hc
  obtain ⟨d, hd⟩ : ∃ d, cls qual = d := ⟨_, rfl⟩
  have HD := Lib.hid hd
  have hQ0 : Q W (tokA w ⟨3, qual, text, n, auto, line, col⟩) := hq.below ((Below.refl _ _).alloc (Nat.le_refl _) _)
  have HA := tokA_only w ⟨3, qual, text, n, auto, line, col⟩
  have hcb := cls_bd text
  rw [hc] at hcb
  have hcases : ((n == 0) = false ∧ prT ⟨3, qual, text, n, auto, line, col⟩ = false) ∨ ((n == 0) = true ∧ (c == 3) = false ∧ prT ⟨3, qual, text, n, auto, line, col⟩ = false) ∨ ((n == 0) = true ∧ (c == 3) = true ∧ prT ⟨3, qual, text, n, auto, line, col⟩ = true) := by
    have hI : isq qual = true := by
      unfold isq
      rcases h1 with h | ⟨_, h⟩
      · simp only at h; rw [h]; rfl
      · simp only at h; rw [h]; simp
    have hP : prT ⟨3, qual, text, n, auto, line, col⟩ = ((n == 0) && (c == 3)) := by
      unfold prT
      simp only
      rw [if_neg (by decide), if_neg (by decide), if_neg (by decide), if_neg (by decide), if_neg (by decide), if_pos (by decide), hI, hc, opo_eq (by decide) hcb]
      simp
    rw [hP]
    cases h : (n == 0) <;> cases h' : (c == 3) <;> simp
  rcases h1 with h1 | ⟨h1, h2⟩
  · obtain ⟨e1, e2, e3⟩ := empty_facts h1
    clear hz hz2 hc hd h1 hcb
    rcases hcases with ⟨en, hP⟩ | ⟨en, ec, hP⟩ | ⟨en, ec, hP⟩
    all_goals
      rw [hP]
      clear hP
      go_enter Tryz.func31, Tryz.ntmps31
      go_wp2_with (go_loud (first | (go_at_call 78; ((with_reducible refine (rClassify_v text c W _ hz' HC.out (by assumption)).mono ?_); rintro e w1 ⟨rfl, hq1, hO1x⟩; have hO1 : Only (fun _ => False) (tokA w ⟨3, qual, text, n, auto, line, col⟩) w1 := hO1x; obtain ⟨p0, p1, p2, p3, p4, p5, p6⟩ := tokA_tc' hO1))))
      all_goals (go_ret; first | exact ⟨rfl, HA.trans hO12⟩ | exact ⟨rfl, HA.trans hO1⟩ | exact ⟨ret_bool (by simp; omega), HA.trans hO1⟩ | exact ⟨ret_bool (by simp [*]), HA.trans hO1⟩)
  · obtain ⟨e1, e2, e3⟩ := full_facts h1
    have e4 : (d != 2) = false := by rw [← hd]; simpa using h2
    clear hz hz2 hc hd h1 h2 hcb
    rcases hcases with ⟨en, hP⟩ | ⟨en, ec, hP⟩ | ⟨en, ec, hP⟩
    all_goals
      rw [hP]
      clear hP
      go_enter Tryz.func31, Tryz.ntmps31
      go_wp2_with (go_loud (first | (go_at_call 78; ((with_reducible refine (rClassify_v text c W _ hz' HC.out (by assumption)).mono ?_); rintro e w1 ⟨rfl, hq1, hO1x⟩; have hO1 : Only (fun _ => False) (tokA w ⟨3, qual, text, n, auto, line, col⟩) w1 := hO1x; obtain ⟨p0, p1, p2, p3, p4, p5, p6⟩ := tokA_tc' hO1)) | (go_at_call 78; ((with_reducible refine (rClassify_v qual d W _ hz2' HD.out (by assumption)).mono ?_); rintro e w2 ⟨rfl, hq2, hO2⟩; have hO12 := hO1.trans hO2; obtain ⟨r0, r1, r2, r3, r4, r5, r6⟩ := tokA_tc' hO12))))
      all_goals (go_ret; first | exact ⟨rfl, HA.trans hO12⟩ | exact ⟨rfl, HA.trans hO1⟩ | exact ⟨ret_bool (by simp; omega), HA.trans hO1⟩ | exact ⟨ret_bool (by simp [*]), HA.trans hO1⟩)
set_option maxRecDepth 100000 in
set_option maxHeartbeats 4000000 in
theorem rprt_4 (t : Tok) (W w : World) (hq : Q W w) (hz : t.text.size ≤ 65536) (hz2 : t.qual.size ≤ 65536) (hop : t.op = 4) (h1 : t.qual.data.toList = [] ∨ (t.qual.data.toList ≠ [] ∧ cls t.qual = 2)) :
    Calls Tryz.prog 31 #[tokV t] w fun e w' => e = .returned (.bool (prT t)) ∧ Only (fun _ => False) w w' := by
  obtain ⟨op, qual, text, n, auto, line, col⟩ := t
  obtain rfl : op = 4 := hop
  have hz' : text.size ≤ 65536 := hz
  have hz2' : qual.size ≤ 65536 := hz2
  obtain ⟨c, hc⟩ : ∃ c, cls text = c := ⟨_, rfl⟩
  have HC := Lib.hid hc
  obtain ⟨d, hd⟩ : ∃ d, cls qual = d := ⟨_, rfl⟩
  have HD := Lib.hid hd
  have hQ0 : Q W (tokA w ⟨4, qual, text, n, auto, line, col⟩) := hq.below ((Below.refl _ _).alloc (Nat.le_refl _) _)
  have HA := tokA_only w ⟨4, qual, text, n, auto, line, col⟩
  have hcb := cls_bd text
  rw [hc] at hcb
  have hcases : ((n == 0) = false ∧ prT ⟨4, qual, text, n, auto, line, col⟩ = false) ∨ ((n == 0) = true ∧ (c == 4) = false ∧ prT ⟨4, qual, text, n, auto, line, col⟩ = false) ∨ ((n == 0) = true ∧ (c == 4) = true ∧ prT ⟨4, qual, text, n, auto, line, col⟩ = true) := by
    have hI : isq qual = true := by
      unfold isq
      rcases h1 with h | ⟨_, h⟩
      · simp only at h; rw [h]; rfl
      · simp only at h; rw [h]; simp
    have hP : prT ⟨4, qual, text, n, auto, line, col⟩ = ((n == 0) && (c == 4)) := by
      unfold prT
      simp only
      rw [if_neg (by decide), if_neg (by decide), if_neg (by decide), if_neg (by decide), if_neg (by decide), if_pos (by decide), hI, hc, opo_eq (by decide) hcb]
      simp
    rw [hP]
    cases h : (n == 0) <;> cases h' : (c == 4) <;> simp
  rcases h1 with h1 | ⟨h1, h2⟩
  · obtain ⟨e1, e2, e3⟩ := empty_facts h1
    clear hz hz2 hc hd h1 hcb
    rcases hcases with ⟨en, hP⟩ | ⟨en, ec, hP⟩ | ⟨en, ec, hP⟩
    all_goals
      rw [hP]
      clear hP
      go_enter Tryz.func31, Tryz.ntmps31
      go_wp2_with (go_loud (first | (go_at_call 78; ((with_reducible refine (rClassify_v text c W _ hz' HC.out (by assumption)).mono ?_); rintro e w1 ⟨rfl, hq1, hO1x⟩; have hO1 : Only (fun _ => False) (tokA w ⟨4, qual, text, n, auto, line, col⟩) w1 := hO1x; obtain ⟨p0, p1, p2, p3, p4, p5, p6⟩ := tokA_tc' hO1))))
      all_goals (go_ret; first | exact ⟨rfl, HA.trans hO12⟩ | exact ⟨rfl, HA.trans hO1⟩ | exact ⟨ret_bool (by simp; omega), HA.trans hO1⟩ | exact ⟨ret_bool (by simp [*]), HA.trans hO1⟩)
  · obtain ⟨e1, e2, e3⟩ := full_facts h1
    have e4 : (d != 2) = false := by rw [← hd]; simpa using h2
    clear hz hz2 hc hd h1 h2 hcb
    rcases hcases with ⟨en, hP⟩ | ⟨en, ec, hP⟩ | ⟨en, ec, hP⟩
    all_goals
      rw [hP]
      clear hP
      go_enter Tryz.func31, Tryz.ntmps31
      go_wp2_with (go_loud (first | (go_at_call 78; ((with_reducible refine (rClassify_v text c W _ hz' HC.out (by assumption)).mono ?_); rintro e w1 ⟨rfl, hq1, hO1x⟩; have hO1 : Only (fun _ => False) (tokA w ⟨4, qual, text, n, auto, line, col⟩) w1 := hO1x; obtain ⟨p0, p1, p2, p3, p4, p5, p6⟩ := tokA_tc' hO1)) | (go_at_call 78; ((with_reducible refine (rClassify_v qual d W _ hz2' HD.out (by assumption)).mono ?_); rintro e w2 ⟨rfl, hq2, hO2⟩; have hO12 := hO1.trans hO2; obtain ⟨r0, r1, r2, r3, r4, r5, r6⟩ := tokA_tc' hO12))))
      all_goals (go_ret; first | exact ⟨rfl, HA.trans hO12⟩ | exact ⟨rfl, HA.trans hO1⟩ | exact ⟨ret_bool (by simp; omega), HA.trans hO1⟩ | exact ⟨ret_bool (by simp [*]), HA.trans hO1⟩)
end Go.Proofs.YtelichlplblboaaGreatDoor
namespace Go.Proofs.YtelichlplblboaaGreatDoor
open Go.RowKit Go.Maps
set_option maxRecDepth 100000 in
set_option maxHeartbeats 4000000 in
theorem rprt_5 (t : Tok) (W w : World) (hq : Q W w) (hz : t.text.size ≤ 65536) (hz2 : t.qual.size ≤ 65536) (hop : t.op = 5) (h1 : t.qual.data.toList = []) :
    Calls Tryz.prog 31 #[tokV t] w fun e w' => e = .returned (.bool (prT t)) ∧ Only (fun _ => False) w w' := by
  obtain ⟨op, qual, text, n, auto, line, col⟩ := t
  obtain rfl : op = 5 := hop
  have hz' : text.size ≤ 65536 := hz
  have hz2' : qual.size ≤ 65536 := hz2
  obtain ⟨c, hc⟩ : ∃ c, cls text = c := ⟨_, rfl⟩
  have HC := Lib.hid hc
  obtain ⟨d, hd⟩ : ∃ d, cls qual = d := ⟨_, rfl⟩
  have HD := Lib.hid hd
  have hQ0 : Q W (tokA w ⟨5, qual, text, n, auto, line, col⟩) := hq.below ((Below.refl _ _).alloc (Nat.le_refl _) _)
  have HA := tokA_only w ⟨5, qual, text, n, auto, line, col⟩
  have hcb := cls_bd text
  rw [hc] at hcb
  have hi : qual.data.toList.isEmpty = true := by simp only at h1; rw [h1]; rfl
  have hcases : (text.data.toList = [] ∧ 0 ≤ n ∧ prT ⟨5, qual, text, n, auto, line, col⟩ = true) ∨ (text.data.toList = [] ∧ n < 0 ∧ prT ⟨5, qual, text, n, auto, line, col⟩ = false) ∨ (text.data.toList ≠ [] ∧ prT ⟨5, qual, text, n, auto, line, col⟩ = false) := by
    unfold prT
    simp only [if_true]
    rw [hi]
    by_cases a : text.data.toList = []
    · have i : text.data.toList.isEmpty = true := by rw [a]; rfl
      rw [i]
      by_cases b : 0 ≤ n
      · exact .inl ⟨a, b, by simp [b]⟩
      · exact .inr (.inl ⟨a, by omega, by simp; omega⟩)
    · have i : text.data.toList.isEmpty = false := by simpa using a
      rw [i]
      exact .inr (.inr ⟨a, by simp⟩)
  obtain ⟨e1, e2, e3⟩ := empty_facts h1
  clear hz hz2 hc hd h1 hcb hi
  rcases hcases with ⟨a, hn, hP⟩ | ⟨a, hn, hP⟩ | ⟨a, hP⟩
  · obtain ⟨g1, g2, g3⟩ := empty_facts a
    clear a
    rw [hP]
    clear hP
    go_enter Tryz.func31, Tryz.ntmps31
    go_wp2_with (go_loud (first | (go_at_call 78; ((with_reducible refine (rClassify_v text c W _ hz' HC.out (by assumption)).mono ?_); rintro e w1 ⟨rfl, hq1, hO1x⟩; have hO1 : Only (fun _ => False) (tokA w ⟨5, qual, text, n, auto, line, col⟩) w1 := hO1x; obtain ⟨p0, p1, p2, p3, p4, p5, p6⟩ := tokA_tc' hO1))))
    all_goals (go_ret; first | exact ⟨rfl, HA.trans hO12⟩ | exact ⟨rfl, HA.trans hO1⟩ | exact ⟨ret_bool (by simp; omega), HA.trans hO1⟩ | exact ⟨ret_bool (by simp [*]), HA.trans hO1⟩)
  · obtain ⟨g1, g2, g3⟩ := empty_facts a
    clear a
    rw [hP]
    clear hP
    go_enter Tryz.func31, Tryz.ntmps31
    go_wp2_with (go_loud (first | (go_at_call 78; ((with_reducible refine (rClassify_v text c W _ hz' HC.out (by assumption)).mono ?_); rintro e w1 ⟨rfl, hq1, hO1x⟩; have hO1 : Only (fun _ => False) (tokA w ⟨5, qual, text, n, auto, line, col⟩) w1 := hO1x; obtain ⟨p0, p1, p2, p3, p4, p5, p6⟩ := tokA_tc' hO1))))
    all_goals (go_ret; first | exact ⟨rfl, HA.trans hO12⟩ | exact ⟨rfl, HA.trans hO1⟩ | exact ⟨ret_bool (by simp; omega), HA.trans hO1⟩ | exact ⟨ret_bool (by simp [*]), HA.trans hO1⟩)
  · obtain ⟨g1, g2, g3⟩ := full_facts a
    clear a
    rw [hP]
    clear hP
    go_enter Tryz.func31, Tryz.ntmps31
    go_wp2_with (go_loud (first | (go_at_call 78; ((with_reducible refine (rClassify_v text c W _ hz' HC.out (by assumption)).mono ?_); rintro e w1 ⟨rfl, hq1, hO1x⟩; have hO1 : Only (fun _ => False) (tokA w ⟨5, qual, text, n, auto, line, col⟩) w1 := hO1x; obtain ⟨p0, p1, p2, p3, p4, p5, p6⟩ := tokA_tc' hO1))))
    all_goals (go_ret; first | exact ⟨rfl, HA.trans hO12⟩ | exact ⟨rfl, HA.trans hO1⟩ | exact ⟨ret_bool (by simp; omega), HA.trans hO1⟩ | exact ⟨ret_bool (by simp [*]), HA.trans hO1⟩)
set_option maxRecDepth 100000 in
set_option maxHeartbeats 4000000 in
theorem rprt_6 (t : Tok) (W w : World) (hq : Q W w) (hz : t.text.size ≤ 65536) (hz2 : t.qual.size ≤ 65536) (hop : t.op = 6) (h1 : t.qual.data.toList = []) :
    Calls Tryz.prog 31 #[tokV t] w fun e w' => e = .returned (.bool (prT t)) ∧ Only (fun _ => False) w w' := by
  obtain ⟨op, qual, text, n, auto, line, col⟩ := t
  obtain rfl : op = 6 := hop
  have hz' : text.size ≤ 65536 := hz
  have hz2' : qual.size ≤ 65536 := hz2
  obtain ⟨c, hc⟩ : ∃ c, cls text = c := ⟨_, rfl⟩
  have HC := Lib.hid hc
  obtain ⟨d, hd⟩ : ∃ d, cls qual = d := ⟨_, rfl⟩
  have HD := Lib.hid hd
  have hQ0 : Q W (tokA w ⟨6, qual, text, n, auto, line, col⟩) := hq.below ((Below.refl _ _).alloc (Nat.le_refl _) _)
  have HA := tokA_only w ⟨6, qual, text, n, auto, line, col⟩
  have hcb := cls_bd text
  rw [hc] at hcb
  have hi : qual.data.toList.isEmpty = true := by simp only at h1; rw [h1]; rfl
  have hcases : (text.data.toList = [] ∧ (0 ≤ n ∧ n ≤ 255) ∧ prT ⟨6, qual, text, n, auto, line, col⟩ = true) ∨ (text.data.toList = [] ∧ n < 0 ∧ prT ⟨6, qual, text, n, auto, line, col⟩ = false) ∨ (text.data.toList = [] ∧ (0 ≤ n ∧ 255 < n) ∧ prT ⟨6, qual, text, n, auto, line, col⟩ = false) ∨ (text.data.toList ≠ [] ∧ prT ⟨6, qual, text, n, auto, line, col⟩ = false) := by
    unfold prT
    simp only
    rw [if_neg (by decide), if_pos trivial, hi]
    by_cases a : text.data.toList = []
    · have i : text.data.toList.isEmpty = true := by rw [a]; rfl
      rw [i]
      by_cases b : 0 ≤ n
      · by_cases b' : n ≤ 255
        · exact .inl ⟨a, ⟨b, b'⟩, by simp [b, b']⟩
        · exact .inr (.inr (.inl ⟨a, ⟨b, by omega⟩, by simp; omega⟩))
      · exact .inr (.inl ⟨a, by omega, by simp; omega⟩)
    · have i : text.data.toList.isEmpty = false := by simpa using a
      rw [i]
      exact .inr (.inr (.inr ⟨a, by simp⟩))
  obtain ⟨e1, e2, e3⟩ := empty_facts h1
  clear hz hz2 hc hd h1 hcb hi
  rcases hcases with ⟨a, ⟨hn, hn2⟩, hP⟩ | ⟨a, hn, hP⟩ | ⟨a, ⟨hn, hn2⟩, hP⟩ | ⟨a, hP⟩
  · obtain ⟨g1, g2, g3⟩ := empty_facts a
    clear a
    rw [hP]
    clear hP
    go_enter Tryz.func31, Tryz.ntmps31
    go_wp2_with (go_loud (first | (go_at_call 78; ((with_reducible refine (rClassify_v text c W _ hz' HC.out (by assumption)).mono ?_); rintro e w1 ⟨rfl, hq1, hO1x⟩; have hO1 : Only (fun _ => False) (tokA w ⟨6, qual, text, n, auto, line, col⟩) w1 := hO1x; obtain ⟨p0, p1, p2, p3, p4, p5, p6⟩ := tokA_tc' hO1))))
    all_goals (go_ret; first | exact ⟨rfl, HA.trans hO12⟩ | exact ⟨rfl, HA.trans hO1⟩ | exact ⟨ret_bool (by simp; omega), HA.trans hO1⟩ | exact ⟨ret_bool (by simp [*]), HA.trans hO1⟩)
  · obtain ⟨g1, g2, g3⟩ := empty_facts a
    clear a
    rw [hP]
    clear hP
    go_enter Tryz.func31, Tryz.ntmps31
    go_wp2_with (go_loud (first | (go_at_call 78; ((with_reducible refine (rClassify_v text c W _ hz' HC.out (by assumption)).mono ?_); rintro e w1 ⟨rfl, hq1, hO1x⟩; have hO1 : Only (fun _ => False) (tokA w ⟨6, qual, text, n, auto, line, col⟩) w1 := hO1x; obtain ⟨p0, p1, p2, p3, p4, p5, p6⟩ := tokA_tc' hO1))))
    all_goals (go_ret; first | exact ⟨rfl, HA.trans hO12⟩ | exact ⟨rfl, HA.trans hO1⟩ | exact ⟨ret_bool (by simp; omega), HA.trans hO1⟩ | exact ⟨ret_bool (by simp [*]), HA.trans hO1⟩)
  · obtain ⟨g1, g2, g3⟩ := empty_facts a
    clear a
    rw [hP]
    clear hP
    go_enter Tryz.func31, Tryz.ntmps31
    go_wp2_with (go_loud (first | (go_at_call 78; ((with_reducible refine (rClassify_v text c W _ hz' HC.out (by assumption)).mono ?_); rintro e w1 ⟨rfl, hq1, hO1x⟩; have hO1 : Only (fun _ => False) (tokA w ⟨6, qual, text, n, auto, line, col⟩) w1 := hO1x; obtain ⟨p0, p1, p2, p3, p4, p5, p6⟩ := tokA_tc' hO1))))
    all_goals (go_ret; first | exact ⟨rfl, HA.trans hO12⟩ | exact ⟨rfl, HA.trans hO1⟩ | exact ⟨ret_bool (by simp; omega), HA.trans hO1⟩ | exact ⟨ret_bool (by simp [*]), HA.trans hO1⟩)
  · obtain ⟨g1, g2, g3⟩ := full_facts a
    clear a
    rw [hP]
    clear hP
    go_enter Tryz.func31, Tryz.ntmps31
    go_wp2_with (go_loud (first | (go_at_call 78; ((with_reducible refine (rClassify_v text c W _ hz' HC.out (by assumption)).mono ?_); rintro e w1 ⟨rfl, hq1, hO1x⟩; have hO1 : Only (fun _ => False) (tokA w ⟨6, qual, text, n, auto, line, col⟩) w1 := hO1x; obtain ⟨p0, p1, p2, p3, p4, p5, p6⟩ := tokA_tc' hO1))))
    all_goals (go_ret; first | exact ⟨rfl, HA.trans hO12⟩ | exact ⟨rfl, HA.trans hO1⟩ | exact ⟨ret_bool (by simp; omega), HA.trans hO1⟩ | exact ⟨ret_bool (by simp [*]), HA.trans hO1⟩)
set_option maxRecDepth 100000 in
set_option maxHeartbeats 4000000 in
theorem rprt_7 (t : Tok) (W w : World) (hq : Q W w) (hz : t.text.size ≤ 65536) (hz2 : t.qual.size ≤ 65536) (hop : t.op = 7) (h1 : t.qual.data.toList = []) :
    Calls Tryz.prog 31 #[tokV t] w fun e w' => e = .returned (.bool (prT t)) ∧ Only (fun _ => False) w w' := by
  obtain ⟨op, qual, text, n, auto, line, col⟩ := t
  obtain rfl : op = 7 := hop
  have hz' : text.size ≤ 65536 := hz
  have hz2' : qual.size ≤ 65536 := hz2
  obtain ⟨c, hc⟩ : ∃ c, cls text = c := ⟨_, rfl⟩
  have HC := Lib.hid hc
  obtain ⟨d, hd⟩ : ∃ d, cls qual = d := ⟨_, rfl⟩
  have HD := Lib.hid hd
  have hQ0 : Q W (tokA w ⟨7, qual, text, n, auto, line, col⟩) := hq.below ((Below.refl _ _).alloc (Nat.le_refl _) _)
  have HA := tokA_only w ⟨7, qual, text, n, auto, line, col⟩
  have hcb := cls_bd text
  rw [hc] at hcb
  have hi : qual.data.toList.isEmpty = true := by simp only at h1; rw [h1]; rfl
  have hcases : ((n == 0) = false ∧ prT ⟨7, qual, text, n, auto, line, col⟩ = false) ∨ ((n == 0) = true ∧ prT ⟨7, qual, text, n, auto, line, col⟩ = decide (text.size ≤ 200)) := by
    unfold prT
    simp only
    rw [if_neg (by decide), if_neg (by decide), if_pos trivial, hi]
    cases h : (n == 0) <;> simp
  obtain ⟨e1, e2, e3⟩ := empty_facts h1
  clear hz hz2 hc hd h1 hcb hi
  rcases hcases with ⟨en, hP⟩ | ⟨en, hP⟩
  · rw [hP]
    clear hP
    go_enter Tryz.func31, Tryz.ntmps31
    go_wp2_with (go_loud (first | (go_at_call 78; ((with_reducible refine (rClassify_v text c W _ hz' HC.out (by assumption)).mono ?_); rintro e w1 ⟨rfl, hq1, hO1x⟩; have hO1 : Only (fun _ => False) (tokA w ⟨7, qual, text, n, auto, line, col⟩) w1 := hO1x; obtain ⟨p0, p1, p2, p3, p4, p5, p6⟩ := tokA_tc' hO1))))
    all_goals (go_ret; first | exact ⟨rfl, HA.trans hO12⟩ | exact ⟨rfl, HA.trans hO1⟩ | exact ⟨ret_bool (by simp; omega), HA.trans hO1⟩ | exact ⟨ret_bool (by simp [*]), HA.trans hO1⟩)
  · rw [hP]
    clear hP
    have hl : text.size ≤ 200 ∨ 200 < text.size := by omega
    rcases hl with hl | hl
    · rw [decide_eq_true hl]
      go_enter Tryz.func31, Tryz.ntmps31
      go_wp2_with (go_loud (first | (go_at_call 78; ((with_reducible refine (rClassify_v text c W _ hz' HC.out (by assumption)).mono ?_); rintro e w1 ⟨rfl, hq1, hO1x⟩; have hO1 : Only (fun _ => False) (tokA w ⟨7, qual, text, n, auto, line, col⟩) w1 := hO1x; obtain ⟨p0, p1, p2, p3, p4, p5, p6⟩ := tokA_tc' hO1))))
      all_goals (go_ret; first | exact ⟨rfl, HA.trans hO12⟩ | exact ⟨rfl, HA.trans hO1⟩ | exact ⟨ret_bool (by simp; omega), HA.trans hO1⟩ | exact ⟨ret_bool (by simp [*]), HA.trans hO1⟩)
    · rw [decide_eq_false (by omega)]
      go_enter Tryz.func31, Tryz.ntmps31
      go_wp2_with (go_loud (first | (go_at_call 78; ((with_reducible refine (rClassify_v text c W _ hz' HC.out (by assumption)).mono ?_); rintro e w1 ⟨rfl, hq1, hO1x⟩; have hO1 : Only (fun _ => False) (tokA w ⟨7, qual, text, n, auto, line, col⟩) w1 := hO1x; obtain ⟨p0, p1, p2, p3, p4, p5, p6⟩ := tokA_tc' hO1))))
      all_goals (go_ret; first | exact ⟨rfl, HA.trans hO12⟩ | exact ⟨rfl, HA.trans hO1⟩ | exact ⟨ret_bool (by simp; omega), HA.trans hO1⟩ | exact ⟨ret_bool (by simp [*]), HA.trans hO1⟩)
set_option maxRecDepth 100000 in
set_option maxHeartbeats 4000000 in
theorem rprt_8 (t : Tok) (W w : World) (hq : Q W w) (hz : t.text.size ≤ 65536) (hz2 : t.qual.size ≤ 65536) (hop : t.op = 8) (h1 : t.qual.data.toList = []) :
    Calls Tryz.prog 31 #[tokV t] w fun e w' => e = .returned (.bool (prT t)) ∧ Only (fun _ => False) w w' := by
  obtain ⟨op, qual, text, n, auto, line, col⟩ := t
  obtain rfl : op = 8 := hop
  have hz' : text.size ≤ 65536 := hz
  have hz2' : qual.size ≤ 65536 := hz2
  obtain ⟨c, hc⟩ : ∃ c, cls text = c := ⟨_, rfl⟩
  have HC := Lib.hid hc
  obtain ⟨d, hd⟩ : ∃ d, cls qual = d := ⟨_, rfl⟩
  have HD := Lib.hid hd
  have hQ0 : Q W (tokA w ⟨8, qual, text, n, auto, line, col⟩) := hq.below ((Below.refl _ _).alloc (Nat.le_refl _) _)
  have HA := tokA_only w ⟨8, qual, text, n, auto, line, col⟩
  have hcb := cls_bd text
  rw [hc] at hcb
  have hi : qual.data.toList.isEmpty = true := by simp only at h1; rw [h1]; rfl
  have hcases : ((n == 0) = false ∧ prT ⟨8, qual, text, n, auto, line, col⟩ = false) ∨ ((n == 0) = true ∧ text.size ≠ 1 ∧ prT ⟨8, qual, text, n, auto, line, col⟩ = false) ∨ ((n == 0) = true ∧ text.size = 1 ∧ prT ⟨8, qual, text, n, auto, line, col⟩ = Lib.contains spB text.data.toList) := by
    unfold prT
    simp only
    rw [if_neg (by decide), if_neg (by decide), if_neg (by decide), if_pos trivial, hi]
    cases h : (n == 0)
    · exact .inl ⟨rfl, by simp⟩
    · by_cases hs : text.size = 1
      · exact .inr (.inr ⟨rfl, hs, by simp [hs]⟩)
      · exact .inr (.inl ⟨rfl, hs, by simp [hs]⟩)
  obtain ⟨e1, e2, e3⟩ := empty_facts h1
  clear hz hz2 hc hd h1 hcb hi
  rcases hcases with ⟨en, hP⟩ | ⟨en, hs, hP⟩ | ⟨en, hs, hP⟩
  · rw [hP]
    clear hP
    go_enter Tryz.func31, Tryz.ntmps31
    go_wp2_with (go_loud (first | (go_at_call 78; ((with_reducible refine (rClassify_v text c W _ hz' HC.out (by assumption)).mono ?_); rintro e w1 ⟨rfl, hq1, hO1x⟩; have hO1 : Only (fun _ => False) (tokA w ⟨8, qual, text, n, auto, line, col⟩) w1 := hO1x; obtain ⟨p0, p1, p2, p3, p4, p5, p6⟩ := tokA_tc' hO1))))
    all_goals (go_ret; first | exact ⟨rfl, HA.trans hO12⟩ | exact ⟨rfl, HA.trans hO1⟩ | exact ⟨ret_bool (by simp; omega), HA.trans hO1⟩ | exact ⟨ret_bool (by simp [*]), HA.trans hO1⟩)
  · rw [hP]
    clear hP
    have es : ((text.size : Int) == 1) = false := by simp; omega
    go_enter Tryz.func31, Tryz.ntmps31
    go_wp2_with (go_loud (first | (go_at_call 78; ((with_reducible refine (rClassify_v text c W _ hz' HC.out (by assumption)).mono ?_); rintro e w1 ⟨rfl, hq1, hO1x⟩; have hO1 : Only (fun _ => False) (tokA w ⟨8, qual, text, n, auto, line, col⟩) w1 := hO1x; obtain ⟨p0, p1, p2, p3, p4, p5, p6⟩ := tokA_tc' hO1))))
    all_goals (go_ret; first | exact ⟨rfl, HA.trans hO12⟩ | exact ⟨rfl, HA.trans hO1⟩ | exact ⟨ret_bool (by simp; omega), HA.trans hO1⟩ | exact ⟨ret_bool (by simp [*]), HA.trans hO1⟩)
  · rw [hP]
    clear hP
    have hlt : 0 < text.size := by omega
    obtain ⟨x, hx⟩ : ∃ x, text[0] = x := ⟨_, rfl⟩
    obtain ⟨y, hy⟩ : ∃ y, (x.toNat : Int) = y := ⟨_, rfl⟩
    have hSy : (((text[0]'hlt).toNat : Nat) : Int) = y := by rw [hx]; exact hy
    obtain ⟨v, hv⟩ : ∃ v, Lib.contains spB text.data.toList = v := ⟨_, rfl⟩
    have HV : Hid (Lib.contains spB [x] = v) := Lib.hid (by
      rw [← hv, ← hx]
      have e : text.data.toList = [text[0]] := by
        have h2 := take_one hlt
        rw [List.take_of_length_le (by rw [← Lib.size_eq]; omega)] at h2
        exact h2
      rw [e])
    have es : ((text.size : Int) == 1) = true := by simp; omega
    have HY := Lib.hid hy
    rw [hv]
    clear hy hx hv
    cases v
    all_goals
      go_enter Tryz.func31, Tryz.ntmps31
      go_wp2_with (go_loud (first | (go_at_call 78; ((with_reducible refine (rClassify_v text c W _ hz' HC.out (by assumption)).mono ?_); rintro e w1 ⟨rfl, hq1, hO1x⟩; have hO1 : Only (fun _ => False) (tokA w ⟨8, qual, text, n, auto, line, col⟩) w1 := hO1x; obtain ⟨p0, p1, p2, p3, p4, p5, p6⟩ := tokA_tc' hO1)) | (go_at_call 69; ((with_reducible refine (rspecial_v x y _ _ HY.out HV.out).mono ?_); rintro e w2 ⟨rfl, rfl⟩))))
      all_goals (go_ret; first | exact ⟨rfl, HA.trans hO12⟩ | exact ⟨rfl, HA.trans hO1⟩ | exact ⟨ret_bool (by simp; omega), HA.trans hO1⟩ | exact ⟨ret_bool (by simp [*]), HA.trans hO1⟩)
set_option maxRecDepth 100000 in
set_option maxHeartbeats 4000000 in
theorem rprt_9 (t : Tok) (W w : World) (hq : Q W w) (hz : t.text.size ≤ 65536) (hz2 : t.qual.size ≤ 65536) (hop : t.op = 9) (h1 : t.qual.data.toList = []) :
    Calls Tryz.prog 31 #[tokV t] w fun e w' => e = .returned (.bool (prT t)) ∧ Only (fun _ => False) w w' := by
  obtain ⟨op, qual, text, n, auto, line, col⟩ := t
  obtain rfl : op = 9 := hop
  have hz' : text.size ≤ 65536 := hz
  have hz2' : qual.size ≤ 65536 := hz2
  obtain ⟨c, hc⟩ : ∃ c, cls text = c := ⟨_, rfl⟩
  have HC := Lib.hid hc
  obtain ⟨d, hd⟩ : ∃ d, cls qual = d := ⟨_, rfl⟩
  have HD := Lib.hid hd
  have hQ0 : Q W (tokA w ⟨9, qual, text, n, auto, line, col⟩) := hq.below ((Below.refl _ _).alloc (Nat.le_refl _) _)
  have HA := tokA_only w ⟨9, qual, text, n, auto, line, col⟩
  have hcb := cls_bd text
  rw [hc] at hcb
  have hi : qual.data.toList.isEmpty = true := by simp only at h1; rw [h1]; rfl
  have hcases : ((n == 0) = false ∧ prT ⟨9, qual, text, n, auto, line, col⟩ = false) ∨ ((n == 0) = true ∧ (c == 5) = false ∧ prT ⟨9, qual, text, n, auto, line, col⟩ = false) ∨ ((n == 0) = true ∧ (c == 5) = true ∧ prT ⟨9, qual, text, n, auto, line, col⟩ = true) := by
    unfold prT
    simp only
    rw [if_neg (by decide), if_neg (by decide), if_neg (by decide), if_neg (by decide), if_pos (by first | trivial | decide), hi, hc, opo_9 hcb]
    cases h : (n == 0) <;> cases h' : (c == 5) <;> simp
  obtain ⟨e1, e2, e3⟩ := empty_facts h1
  clear hz hz2 hc hd h1 hcb hi
  rcases hcases with ⟨en, hP⟩ | ⟨en, ec, hP⟩ | ⟨en, ec, hP⟩
  all_goals
    rw [hP]
    clear hP
    go_enter Tryz.func31, Tryz.ntmps31
    go_wp2_with (go_loud (first | (go_at_call 78; ((with_reducible refine (rClassify_v text c W _ hz' HC.out (by assumption)).mono ?_); rintro e w1 ⟨rfl, hq1, hO1x⟩; have hO1 : Only (fun _ => False) (tokA w ⟨9, qual, text, n, auto, line, col⟩) w1 := hO1x; obtain ⟨p0, p1, p2, p3, p4, p5, p6⟩ := tokA_tc' hO1))))
    all_goals (go_ret; first | exact ⟨rfl, HA.trans hO12⟩ | exact ⟨rfl, HA.trans hO1⟩ | exact ⟨ret_bool (by simp; omega), HA.trans hO1⟩ | exact ⟨ret_bool (by simp [*]), HA.trans hO1⟩)
set_option maxRecDepth 100000 in
set_option maxHeartbeats 4000000 in
theorem rprt_10 (t : Tok) (W w : World) (hq : Q W w) (hz : t.text.size ≤ 65536) (hz2 : t.qual.size ≤ 65536) (hop : t.op = 10) (h1 : t.qual.data.toList = []) :
    Calls Tryz.prog 31 #[tokV t] w fun e w' => e = .returned (.bool (prT t)) ∧ Only (fun _ => False) w w' := by
  obtain ⟨op, qual, text, n, auto, line, col⟩ := t
  obtain rfl : op = 10 := hop
  have hz' : text.size ≤ 65536 := hz
  have hz2' : qual.size ≤ 65536 := hz2
  obtain ⟨c, hc⟩ : ∃ c, cls text = c := ⟨_, rfl⟩
  have HC := Lib.hid hc
  obtain ⟨d, hd⟩ : ∃ d, cls qual = d := ⟨_, rfl⟩
  have HD := Lib.hid hd
  have hQ0 : Q W (tokA w ⟨10, qual, text, n, auto, line, col⟩) := hq.below ((Below.refl _ _).alloc (Nat.le_refl _) _)
  have HA := tokA_only w ⟨10, qual, text, n, auto, line, col⟩
  have hcb := cls_bd text
  rw [hc] at hcb
  have hi : qual.data.toList.isEmpty = true := by simp only at h1; rw [h1]; rfl
  have hcases : ((n == 0) = false ∧ prT ⟨10, qual, text, n, auto, line, col⟩ = false) ∨ ((n == 0) = true ∧ (c == 6) = false ∧ prT ⟨10, qual, text, n, auto, line, col⟩ = false) ∨ ((n == 0) = true ∧ (c == 6) = true ∧ prT ⟨10, qual, text, n, auto, line, col⟩ = true) := by
    unfold prT
    simp only
    rw [if_neg (by decide), if_neg (by decide), if_neg (by decide), if_neg (by decide), if_pos (by first | trivial | decide), hi, hc, opo_10 hcb]
    cases h : (n == 0) <;> cases h' : (c == 6) <;> simp
  obtain ⟨e1, e2, e3⟩ := empty_facts h1
  clear hz hz2 hc hd h1 hcb hi
  rcases hcases with ⟨en, hP⟩ | ⟨en, ec, hP⟩ | ⟨en, ec, hP⟩
  all_goals
    rw [hP]
    clear hP
    go_enter Tryz.func31, Tryz.ntmps31
    go_wp2_with (go_loud (first | (go_at_call 78; ((with_reducible refine (rClassify_v text c W _ hz' HC.out (by assumption)).mono ?_); rintro e w1 ⟨rfl, hq1, hO1x⟩; have hO1 : Only (fun _ => False) (tokA w ⟨10, qual, text, n, auto, line, col⟩) w1 := hO1x; obtain ⟨p0, p1, p2, p3, p4, p5, p6⟩ := tokA_tc' hO1))))
    all_goals (go_ret; first | exact ⟨rfl, HA.trans hO12⟩ | exact ⟨rfl, HA.trans hO1⟩ | exact ⟨ret_bool (by simp; omega), HA.trans hO1⟩ | exact ⟨ret_bool (by simp [*]), HA.trans hO1⟩)
end Go.Proofs.YtelichlplblboaaGreatDoor
namespace Go.Proofs.YtelichlplblboaaGreatDoor
open Go.RowKit Go.Maps
theorem rPrintable_p (t : Tok) (W w : World) (hq : Q W w) (hz : t.text.size ≤ 65536) (hz2 : t.qual.size ≤ 65536) :
    Calls Tryz.prog 31 #[tokV t] w fun e w' => e = .returned (.bool (prT t)) ∧ Only (fun _ => False) w w' := by
  by_cases h1 : t.qual.data.toList = []
  · by_cases h11 : t.op = 1
    · exact rprt_1 t W w hq hz hz2 h11 (.inl h1)
    by_cases h12 : t.op = 2
    · exact rprt_2 t W w hq hz hz2 h12 (.inl h1)
    by_cases h13 : t.op = 3
    · exact rprt_3 t W w hq hz hz2 h13 (.inl h1)
    by_cases h14 : t.op = 4
    · exact rprt_4 t W w hq hz hz2 h14 (.inl h1)
    by_cases h15 : t.op = 5
    · exact rprt_5 t W w hq hz hz2 h15 h1
    by_cases h16 : t.op = 6
    · exact rprt_6 t W w hq hz hz2 h16 h1
    by_cases h17 : t.op = 7
    · exact rprt_7 t W w hq hz hz2 h17 h1
    by_cases h18 : t.op = 8
    · exact rprt_8 t W w hq hz hz2 h18 h1
    by_cases h19 : t.op = 9
    · exact rprt_9 t W w hq hz hz2 h19 h1
    by_cases h20 : t.op = 10
    · exact rprt_10 t W w hq hz hz2 h20 h1
    exact rprt_not t W w hq hz hz2 h1 (by omega)
  · by_cases h2 : cls t.qual = 2
    · by_cases h11 : t.op = 1
      · exact rprt_1 t W w hq hz hz2 h11 (.inr ⟨h1, h2⟩)
      by_cases h12 : t.op = 2
      · exact rprt_2 t W w hq hz hz2 h12 (.inr ⟨h1, h2⟩)
      by_cases h13 : t.op = 3
      · exact rprt_3 t W w hq hz hz2 h13 (.inr ⟨h1, h2⟩)
      by_cases h14 : t.op = 4
      · exact rprt_4 t W w hq hz hz2 h14 (.inr ⟨h1, h2⟩)
      exact rprt_noq t W w hq hz hz2 h1 h2 (by omega)
    · exact rprt_badq t W w hq hz hz2 h1 h2
end Go.Proofs.YtelichlplblboaaGreatDoor
