/-
  WALKS. Which tokens are printable: integers, characters, strings, and what is no token.
  WALKS. Which tokens are not printable: words, symbols.
-/
import Derived.Test.YtelichlplblboaaGreatDoorPrt0
namespace Go.Proofs.YtelichlplblboaaGreatDoor
open Go.RowKit Go.Maps
set_option maxRecDepth 100000 in
set_option maxHeartbeats 4000000 in
theorem printable_5 (t : Tok) (w : World) (hop : t.op = 5) (hz : t.text.size ≤ 65536) :
    Calls Tryz.prog 27 #[tokV t] w fun e w' => e = .returned (.bool (prT t)) ∧ Only (fun _ => False) w w' := by
  obtain ⟨op, qual, text, n, auto, line, col⟩ := t
  obtain rfl : op = 5 := hop
  have HA := tokA_only w ⟨5, qual, text, n, auto, line, col⟩
  have hz' : text.size ≤ 65536 := hz
  have HP : Hid (prT ⟨5, qual, text, n, auto, line, col⟩ = (qual.data.toList.isEmpty && text.data.toList.isEmpty && decide (0 ≤ n))) := Lib.hid rfl
  rw [HP.out]
  clear hz
  by_cases hqu : qual.data.toList = []
  all_goals by_cases htx : text.data.toList = []
  · obtain ⟨e1, e2, e3⟩ := empty_facts hqu
    have i1 : qual.data.toList.isEmpty = true := by rw [hqu]; rfl
    have i2 : text.data.toList.isEmpty = true := by rw [htx]; rfl
    obtain ⟨f1, f2, f3⟩ := empty_facts htx
    go_enter Tryz.func27, Tryz.ntmps27
    go_wp2
    all_goals (go_ret; exact ⟨ret_bool (by first | (rw [i1, i2]; simp [*]; done) | (rw [i1]; simp [*]; done) | (simp [*]; done) | (simp [*]; omega)), Only.of_below ((Below.refl _ _).alloc (Nat.le_refl _) _)⟩)
  · obtain ⟨e1, e2, e3⟩ := empty_facts hqu
    have i1 : qual.data.toList.isEmpty = true := by rw [hqu]; rfl
    have i2 : text.data.toList.isEmpty = false := by simpa using htx
    obtain ⟨f1, f2, f3⟩ := full_facts htx
    go_enter Tryz.func27, Tryz.ntmps27
    go_wp2
    all_goals (go_ret; exact ⟨ret_bool (by first | (rw [i1, i2]; simp [*]; done) | (rw [i1]; simp [*]; done) | (simp [*]; done) | (simp [*]; omega)), Only.of_below ((Below.refl _ _).alloc (Nat.le_refl _) _)⟩)
  · obtain ⟨e1, e2, e3⟩ := full_facts hqu
    have i1 : qual.data.toList.isEmpty = false := by simpa using hqu
    have i2 : text.data.toList.isEmpty = true := by rw [htx]; rfl
    go_enter Tryz.func27, Tryz.ntmps27
    go_wp2
    all_goals (go_ret; exact ⟨ret_bool (by first | (rw [i1, i2]; simp [*]; done) | (rw [i1]; simp [*]; done) | (simp [*]; done) | (simp [*]; omega)), Only.of_below ((Below.refl _ _).alloc (Nat.le_refl _) _)⟩)
  · obtain ⟨e1, e2, e3⟩ := full_facts hqu
    have i1 : qual.data.toList.isEmpty = false := by simpa using hqu
    have i2 : text.data.toList.isEmpty = false := by simpa using htx
    go_enter Tryz.func27, Tryz.ntmps27
    go_wp2
    all_goals (go_ret; exact ⟨ret_bool (by first | (rw [i1, i2]; simp [*]; done) | (rw [i1]; simp [*]; done) | (simp [*]; done) | (simp [*]; omega)), Only.of_below ((Below.refl _ _).alloc (Nat.le_refl _) _)⟩)
set_option maxRecDepth 100000 in
set_option maxHeartbeats 4000000 in
theorem printable_6 (t : Tok) (w : World) (hop : t.op = 6) (hz : t.text.size ≤ 65536) :
    Calls Tryz.prog 27 #[tokV t] w fun e w' => e = .returned (.bool (prT t)) ∧ Only (fun _ => False) w w' := by
  obtain ⟨op, qual, text, n, auto, line, col⟩ := t
  obtain rfl : op = 6 := hop
  have HA := tokA_only w ⟨6, qual, text, n, auto, line, col⟩
  have hz' : text.size ≤ 65536 := hz
  have HP : Hid (prT ⟨6, qual, text, n, auto, line, col⟩ = (qual.data.toList.isEmpty && text.data.toList.isEmpty && decide (0 ≤ n) && decide (n ≤ 255))) := Lib.hid rfl
  rw [HP.out]
  clear hz
  by_cases hqu : qual.data.toList = []
  all_goals by_cases htx : text.data.toList = []
  · obtain ⟨e1, e2, e3⟩ := empty_facts hqu
    have i1 : qual.data.toList.isEmpty = true := by rw [hqu]; rfl
    have i2 : text.data.toList.isEmpty = true := by rw [htx]; rfl
    obtain ⟨f1, f2, f3⟩ := empty_facts htx
    go_enter Tryz.func27, Tryz.ntmps27
    go_wp2
    all_goals (go_ret; exact ⟨ret_bool (by first | (rw [i1, i2]; simp [*]; done) | (rw [i1]; simp [*]; done) | (simp [*]; done) | (simp [*]; omega)), Only.of_below ((Below.refl _ _).alloc (Nat.le_refl _) _)⟩)
  · obtain ⟨e1, e2, e3⟩ := empty_facts hqu
    have i1 : qual.data.toList.isEmpty = true := by rw [hqu]; rfl
    have i2 : text.data.toList.isEmpty = false := by simpa using htx
    obtain ⟨f1, f2, f3⟩ := full_facts htx
    go_enter Tryz.func27, Tryz.ntmps27
    go_wp2
    all_goals (go_ret; exact ⟨ret_bool (by first | (rw [i1, i2]; simp [*]; done) | (rw [i1]; simp [*]; done) | (simp [*]; done) | (simp [*]; omega)), Only.of_below ((Below.refl _ _).alloc (Nat.le_refl _) _)⟩)
  · obtain ⟨e1, e2, e3⟩ := full_facts hqu
    have i1 : qual.data.toList.isEmpty = false := by simpa using hqu
    have i2 : text.data.toList.isEmpty = true := by rw [htx]; rfl
    go_enter Tryz.func27, Tryz.ntmps27
    go_wp2
    all_goals (go_ret; exact ⟨ret_bool (by first | (rw [i1, i2]; simp [*]; done) | (rw [i1]; simp [*]; done) | (simp [*]; done) | (simp [*]; omega)), Only.of_below ((Below.refl _ _).alloc (Nat.le_refl _) _)⟩)
  · obtain ⟨e1, e2, e3⟩ := full_facts hqu
    have i1 : qual.data.toList.isEmpty = false := by simpa using hqu
    have i2 : text.data.toList.isEmpty = false := by simpa using htx
    go_enter Tryz.func27, Tryz.ntmps27
    go_wp2
    all_goals (go_ret; exact ⟨ret_bool (by first | (rw [i1, i2]; simp [*]; done) | (rw [i1]; simp [*]; done) | (simp [*]; done) | (simp [*]; omega)), Only.of_below ((Below.refl _ _).alloc (Nat.le_refl _) _)⟩)
set_option maxRecDepth 100000 in
set_option maxHeartbeats 4000000 in
theorem printable_7 (t : Tok) (w : World) (hop : t.op = 7) (hz : t.text.size ≤ 65536) :
    Calls Tryz.prog 27 #[tokV t] w fun e w' => e = .returned (.bool (prT t)) ∧ Only (fun _ => False) w w' := by
  obtain ⟨op, qual, text, n, auto, line, col⟩ := t
  obtain rfl : op = 7 := hop
  have HA := tokA_only w ⟨7, qual, text, n, auto, line, col⟩
  have hz' : text.size ≤ 65536 := hz
  have HP : Hid (prT ⟨7, qual, text, n, auto, line, col⟩ = (qual.data.toList.isEmpty && (n == 0) && decide (text.size ≤ 200))) := Lib.hid rfl
  rw [HP.out]
  clear hz
  by_cases hqu : qual.data.toList = []
  all_goals by_cases htx : text.data.toList = []
  · obtain ⟨e1, e2, e3⟩ := empty_facts hqu
    have i1 : qual.data.toList.isEmpty = true := by rw [hqu]; rfl
    have i2 : text.data.toList.isEmpty = true := by rw [htx]; rfl
    obtain ⟨f1, f2, f3⟩ := empty_facts htx
    go_enter Tryz.func27, Tryz.ntmps27
    go_wp2
    all_goals (go_ret; exact ⟨ret_bool (by first | (rw [i1, i2]; simp [*]; done) | (rw [i1]; simp [*]; done) | (simp [*]; done) | (simp [*]; omega)), Only.of_below ((Below.refl _ _).alloc (Nat.le_refl _) _)⟩)
  · obtain ⟨e1, e2, e3⟩ := empty_facts hqu
    have i1 : qual.data.toList.isEmpty = true := by rw [hqu]; rfl
    have i2 : text.data.toList.isEmpty = false := by simpa using htx
    obtain ⟨f1, f2, f3⟩ := full_facts htx
    go_enter Tryz.func27, Tryz.ntmps27
    go_wp2
    all_goals (go_ret; exact ⟨ret_bool (by first | (rw [i1, i2]; simp [*]; done) | (rw [i1]; simp [*]; done) | (simp [*]; done) | (simp [*]; omega)), Only.of_below ((Below.refl _ _).alloc (Nat.le_refl _) _)⟩)
  · obtain ⟨e1, e2, e3⟩ := full_facts hqu
    have i1 : qual.data.toList.isEmpty = false := by simpa using hqu
    have i2 : text.data.toList.isEmpty = true := by rw [htx]; rfl
    go_enter Tryz.func27, Tryz.ntmps27
    go_wp2
    all_goals (go_ret; exact ⟨ret_bool (by first | (rw [i1, i2]; simp [*]; done) | (rw [i1]; simp [*]; done) | (simp [*]; done) | (simp [*]; omega)), Only.of_below ((Below.refl _ _).alloc (Nat.le_refl _) _)⟩)
  · obtain ⟨e1, e2, e3⟩ := full_facts hqu
    have i1 : qual.data.toList.isEmpty = false := by simpa using hqu
    have i2 : text.data.toList.isEmpty = false := by simpa using htx
    go_enter Tryz.func27, Tryz.ntmps27
    go_wp2
    all_goals (go_ret; exact ⟨ret_bool (by first | (rw [i1, i2]; simp [*]; done) | (rw [i1]; simp [*]; done) | (simp [*]; done) | (simp [*]; omega)), Only.of_below ((Below.refl _ _).alloc (Nat.le_refl _) _)⟩)
set_option maxRecDepth 100000 in
set_option maxHeartbeats 4000000 in
theorem printable_8 (t : Tok) (W w : World) (hq : Q W w) (hop : t.op = 8) (hz : t.text.size ≤ 65536) :
    Calls Tryz.prog 27 #[tokV t] w fun e w' => e = .returned (.bool (prT t)) ∧ Only (fun _ => False) w w' := by
  obtain ⟨op, qual, text, n, auto, line, col⟩ := t
  obtain rfl : op = 8 := hop
  have hz' : text.size ≤ 65536 := hz
  have hQ0 : Q W (tokA w ⟨8, qual, text, n, auto, line, col⟩) := hq.below ((Below.refl _ _).alloc (Nat.le_refl _) _)
  obtain ⟨m, hm⟩ := hQ0.self.m
  obtain ⟨b, hb⟩ : ∃ b, Lib.contains spB text.data.toList = b := ⟨_, rfl⟩
  have HC : Hid (∀ w', (∃ n', w' = tokA w ⟨8, qual, text, n', auto, line, col⟩) → w'.cell? ⟨0, 0, none⟩ = some (.int .i64 m) → Calls Tryz.prog 71 #[.string ⟨#[40, 41, 91, 93, 123, 125, 44, 59, 96]⟩, .string text] w' fun e w'' => e = .returned (.bool b) ∧ w'' = w') := Lib.hid (fun w' _ hm' => by rw [← hb]; exact Tryz.strings_Contains ⟨#[40, 41, 91, 93, 123, 125, 44, 59, 96]⟩ text m w' (by decide) hm')
  have HM := Lib.hid hm
  have HP : Hid (prT ⟨8, qual, text, n, auto, line, col⟩ = (qual.data.toList.isEmpty && (n == 0) && (text.size == 1) && b)) := Lib.hid (by rw [← hb]; rfl)
  rw [HP.out]
  clear hz hb hm
  by_cases hqu : qual.data.toList = []
  · obtain ⟨e1, e2, e3⟩ := empty_facts hqu
    have i1 : qual.data.toList.isEmpty = true := by rw [hqu]; rfl
    go_enter Tryz.func27, Tryz.ntmps27
    by_cases hn : n = 0
    · subst hn
      by_cases ht : text.size = 1
      · have ht' : ((text.size : Int) == 1) = true := by simp [ht]
        go_wp2_with (go_loud (first | (go_at_call 71; refine (HC.out _ ⟨0, rfl⟩ HM.out).mono ?_; rintro r w1 ⟨rfl, rfl⟩)))
        go_ret
        exact ⟨ret_bool (by rw [i1]; simp [ht]), Only.of_below ((Below.refl _ _).alloc (Nat.le_refl _) _)⟩
      · have ht' : ((text.size : Int) == 1) = false := by simp; omega
        have hb' : (text.size == 1) = false := by simp [ht]
        go_wp2
        go_ret
        exact ⟨ret_bool (by rw [hb']; simp), Only.of_below ((Below.refl _ _).alloc (Nat.le_refl _) _)⟩
    · have hn' : (n == 0) = false := by simp [hn]
      go_wp2
      go_ret
      exact ⟨ret_bool (by rw [hn']; simp), Only.of_below ((Below.refl _ _).alloc (Nat.le_refl _) _)⟩
  · obtain ⟨e1, e2, e3⟩ := full_facts hqu
    have i1 : qual.data.toList.isEmpty = false := by simpa using hqu
    go_enter Tryz.func27, Tryz.ntmps27
    go_wp2
    go_ret
    exact ⟨ret_bool (by rw [i1]; simp), Only.of_below ((Below.refl _ _).alloc (Nat.le_refl _) _)⟩
set_option maxRecDepth 100000 in
set_option maxHeartbeats 4000000 in
theorem printable_not (t : Tok) (w : World) (h1 : t.op ≠ 1) (h2 : t.op ≠ 2) (h3 : t.op ≠ 3) (h4 : t.op ≠ 4) (h5 : t.op ≠ 5) (h6 : t.op ≠ 6) (h7 : t.op ≠ 7) (h8 : t.op ≠ 8) (h9 : t.op ≠ 9) (h10 : t.op ≠ 10) :
    Calls Tryz.prog 27 #[tokV t] w fun e w' => e = .returned (.bool (prT t)) ∧ Only (fun _ => False) w w' := by
  have HP : Hid (prT t = false) := Lib.hid (by unfold prT; simp [h1, h2, h3, h4, h5, h6, h7, h8, h9, h10])
  rw [HP.out]
  have e1 : (t.op == 1) = false := by simp [h1]
  have e2 : (t.op == 2) = false := by simp [h2]
  have e3 : (t.op == 3) = false := by simp [h3]
  have e4 : (t.op == 4) = false := by simp [h4]
  have e5 : (t.op == 5) = false := by simp [h5]
  have e6 : (t.op == 6) = false := by simp [h6]
  have e7 : (t.op == 7) = false := by simp [h7]
  have e8 : (t.op == 8) = false := by simp [h8]
  have e9 : (t.op == 9) = false := by simp [h9]
  have e10 : (t.op == 10) = false := by simp [h10]
  clear h1 h2 h3 h4 h5 h6 h7 h8 h9 h10
  go_enter Tryz.func27, Tryz.ntmps27
  go_wp2
  go_ret
  exact ⟨rfl, Only.of_below ((Below.refl _ _).alloc (Nat.le_refl _) _)⟩
end Go.Proofs.YtelichlplblboaaGreatDoor
namespace Go.Proofs.YtelichlplblboaaGreatDoor
open Go.RowKit Go.Maps
set_option maxRecDepth 100000 in
set_option maxHeartbeats 4000000 in
theorem printable_s9 (t : Tok) (W w : World) (hq : Q W w) (hop : t.op = 9) (hz : t.text.size ≤ 65536) (hno : t.qual.data.toList ≠ [] ∨ (t.qual.data.toList = [] ∧ t.n ≠ 0) ∨ (t.qual.data.toList = [] ∧ t.n = 0 ∧ opo (cls t.text) ≠ 9)) :
    Calls Tryz.prog 27 #[tokV t] w fun e w' => e = .returned (.bool false) ∧ Only (fun _ => False) w w' := by
  obtain ⟨op, qual, text, n, auto, line, col⟩ := t
  obtain rfl : op = 9 := hop
  have hz' : text.size ≤ 65536 := hz
  clear hz
  rcases hno with hqu | ⟨hqu, hn⟩ | ⟨hqu, hn, hc⟩
  · obtain ⟨e1, e2, e3⟩ := full_facts hqu
    clear hqu
    have hQ0 : Q W (tokA w ⟨9, qual, text, n, auto, line, col⟩) := hq.below ((Below.refl _ _).alloc (Nat.le_refl _) _)
    have hQd : Q W (tokA w ⟨9, qual, text, n, auto, line, col⟩).drew := hQ0.below (Below.refl _ _).drew
    have hOd : Only (fun _ => False) (tokA w ⟨9, qual, text, n, auto, line, col⟩) (tokA w ⟨9, qual, text, n, auto, line, col⟩).drew := (Only.refl _ _).drew
    have HA := tokA_only w ⟨9, qual, text, n, auto, line, col⟩
    go_enter Tryz.func27, Tryz.ntmps27
    go_wp2
    go_region
    all_goals
      go_wp2
      go_ret
      exact ⟨rfl, HA.trans (by assumption)⟩
  · obtain ⟨e1, e2, e3⟩ := empty_facts hqu
    have hn' : (n == 0) = false := by simpa using hn
    clear hqu hn
    have hQ0 : Q W (tokA w ⟨9, qual, text, n, auto, line, col⟩) := hq.below ((Below.refl _ _).alloc (Nat.le_refl _) _)
    have hQd : Q W (tokA w ⟨9, qual, text, n, auto, line, col⟩).drew := hQ0.below (Below.refl _ _).drew
    have hOd : Only (fun _ => False) (tokA w ⟨9, qual, text, n, auto, line, col⟩) (tokA w ⟨9, qual, text, n, auto, line, col⟩).drew := (Only.refl _ _).drew
    have HA := tokA_only w ⟨9, qual, text, n, auto, line, col⟩
    go_enter Tryz.func27, Tryz.ntmps27
    go_wp2
    go_region
    all_goals
      go_wp2
      go_ret
      exact ⟨rfl, HA.trans (by assumption)⟩
  · obtain ⟨e1, e2, e3⟩ := empty_facts hqu
    obtain rfl : n = 0 := hn
    obtain ⟨v, hv⟩ : ∃ v, opo (cls text) = v := ⟨_, rfl⟩
    have HC := Lib.hid hv
    have hvn : (v == 9) = false := by rw [← hv]; simpa using hc
    clear hqu hc hv
    have hQ0 : Q W (tokA w ⟨9, qual, text, 0, auto, line, col⟩) := hq.below ((Below.refl _ _).alloc (Nat.le_refl _) _)
    have hQd : Q W (tokA w ⟨9, qual, text, 0, auto, line, col⟩).drew := hQ0.below (Below.refl _ _).drew
    have hOd : Only (fun _ => False) (tokA w ⟨9, qual, text, 0, auto, line, col⟩) (tokA w ⟨9, qual, text, 0, auto, line, col⟩).drew := (Only.refl _ _).drew
    have HA := tokA_only w ⟨9, qual, text, 0, auto, line, col⟩
    go_enter Tryz.func27, Tryz.ntmps27
    go_wp2
    go_region_with (first | (go_at_call 72; refine (opOf_v _ v _ _ (by omega) HC.out (by assumption)).mono ?_; rintro e w1 ⟨rfl, hq1, hO1⟩; have hOn := Only.trans (by assumption : Only (fun _ => False) (tokA w _) _) hO1; obtain ⟨p0, p1, p2, p3, p4, p5, p6⟩ := tokA_tc' hOn))
    all_goals
      go_wp2
      go_ret
      exact ⟨rfl, HA.trans (by assumption)⟩
set_option maxRecDepth 100000 in
set_option maxHeartbeats 4000000 in
theorem printable_s10 (t : Tok) (W w : World) (hq : Q W w) (hop : t.op = 10) (hz : t.text.size ≤ 65536) (hno : t.qual.data.toList ≠ [] ∨ (t.qual.data.toList = [] ∧ t.n ≠ 0) ∨ (t.qual.data.toList = [] ∧ t.n = 0 ∧ opo (cls t.text) ≠ 10)) :
    Calls Tryz.prog 27 #[tokV t] w fun e w' => e = .returned (.bool false) ∧ Only (fun _ => False) w w' := by
  obtain ⟨op, qual, text, n, auto, line, col⟩ := t
  obtain rfl : op = 10 := hop
  have hz' : text.size ≤ 65536 := hz
  clear hz
  rcases hno with hqu | ⟨hqu, hn⟩ | ⟨hqu, hn, hc⟩
  · obtain ⟨e1, e2, e3⟩ := full_facts hqu
    clear hqu
    have hQ0 : Q W (tokA w ⟨10, qual, text, n, auto, line, col⟩) := hq.below ((Below.refl _ _).alloc (Nat.le_refl _) _)
    have hQd : Q W (tokA w ⟨10, qual, text, n, auto, line, col⟩).drew := hQ0.below (Below.refl _ _).drew
    have hOd : Only (fun _ => False) (tokA w ⟨10, qual, text, n, auto, line, col⟩) (tokA w ⟨10, qual, text, n, auto, line, col⟩).drew := (Only.refl _ _).drew
    have HA := tokA_only w ⟨10, qual, text, n, auto, line, col⟩
    go_enter Tryz.func27, Tryz.ntmps27
    go_wp2
    go_region
    all_goals
      go_wp2
      go_ret
      exact ⟨rfl, HA.trans (by assumption)⟩
  · obtain ⟨e1, e2, e3⟩ := empty_facts hqu
    have hn' : (n == 0) = false := by simpa using hn
    clear hqu hn
    have hQ0 : Q W (tokA w ⟨10, qual, text, n, auto, line, col⟩) := hq.below ((Below.refl _ _).alloc (Nat.le_refl _) _)
    have hQd : Q W (tokA w ⟨10, qual, text, n, auto, line, col⟩).drew := hQ0.below (Below.refl _ _).drew
    have hOd : Only (fun _ => False) (tokA w ⟨10, qual, text, n, auto, line, col⟩) (tokA w ⟨10, qual, text, n, auto, line, col⟩).drew := (Only.refl _ _).drew
    have HA := tokA_only w ⟨10, qual, text, n, auto, line, col⟩
    go_enter Tryz.func27, Tryz.ntmps27
    go_wp2
    go_region
    all_goals
      go_wp2
      go_ret
      exact ⟨rfl, HA.trans (by assumption)⟩
  · obtain ⟨e1, e2, e3⟩ := empty_facts hqu
    obtain rfl : n = 0 := hn
    obtain ⟨v, hv⟩ : ∃ v, opo (cls text) = v := ⟨_, rfl⟩
    have HC := Lib.hid hv
    have hvn : (v == 10) = false := by rw [← hv]; simpa using hc
    clear hqu hc hv
    have hQ0 : Q W (tokA w ⟨10, qual, text, 0, auto, line, col⟩) := hq.below ((Below.refl _ _).alloc (Nat.le_refl _) _)
    have hQd : Q W (tokA w ⟨10, qual, text, 0, auto, line, col⟩).drew := hQ0.below (Below.refl _ _).drew
    have hOd : Only (fun _ => False) (tokA w ⟨10, qual, text, 0, auto, line, col⟩) (tokA w ⟨10, qual, text, 0, auto, line, col⟩).drew := (Only.refl _ _).drew
    have HA := tokA_only w ⟨10, qual, text, 0, auto, line, col⟩
    go_enter Tryz.func27, Tryz.ntmps27
    go_wp2
    go_region_with (first | (go_at_call 72; refine (opOf_v _ v _ _ (by omega) HC.out (by assumption)).mono ?_; rintro e w1 ⟨rfl, hq1, hO1⟩; have hOn := Only.trans (by assumption : Only (fun _ => False) (tokA w _) _) hO1; obtain ⟨p0, p1, p2, p3, p4, p5, p6⟩ := tokA_tc' hOn))
    all_goals
      go_wp2
      go_ret
      exact ⟨rfl, HA.trans (by assumption)⟩
end Go.Proofs.YtelichlplblboaaGreatDoor
