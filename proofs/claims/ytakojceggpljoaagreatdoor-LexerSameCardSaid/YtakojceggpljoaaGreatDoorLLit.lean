/-
  WALKS. The scanner's literals: hexadecimal digits, escapes, literal characters, character literals.
-/
import Derived.Test.YtakojceggpljoaaGreatDoorLPos
namespace Go.Proofs.YtakojceggpljoaaGreatDoor
open Go.RowKit
theorem ret_ib {k : IntKind} {a b : Int} {x : Bool} (h : a = b) : Ending.returned (.tuple #[.int k a, .bool x]) = Ending.returned (.tuple #[.int k b, .bool x]) := by rw [h]
set_option maxRecDepth 100000 in
set_option maxHeartbeats 1000000 in
theorem hexValue_yes (c d : Int) (w : World) (h : hexV c = some d) :
    Calls Tryz.prog 161 #[.int .u8 c] w fun e w' => e = .returned (.tuple #[.int .u8 d, .bool true]) ∧ w = w' := by
  by_cases h1 : dg c = true
  · have hb := dg_bd h1
    have hd : d = c - 48 := by unfold hexV at h; rw [if_pos h1] at h; injection h with h; exact h.symm
    have H1 := Lib.hid h1
    have HD := Lib.hid hd
    clear h h1 hd
    go_enter Tryz.func161, Tryz.ntmps161
    go_wp2_with (first | (go_at_call 44; refine (isDigit_any _ _).mono ?_; rw [H1.out]; rintro e w1 ⟨rfl, rfl⟩))
    go_ret2
    exact ⟨ret_ib HD.out.symm, rfl⟩
  · have h1' : dg c = false := by simpa using h1
    have H1 := Lib.hid h1'
    by_cases h2 : 97 ≤ c ∧ c ≤ 102
    · obtain ⟨h3, h4⟩ := h2
      have hd : d = c - 87 := by unfold hexV at h; rw [if_neg h1, if_pos ⟨h3, h4⟩] at h; injection h with h; exact h.symm
      have HD := Lib.hid hd
      clear h h1 h1' hd
      go_enter Tryz.func161, Tryz.ntmps161
      go_wp2_with (first | (go_at_call 44; refine (isDigit_any _ _).mono ?_; rw [H1.out]; rintro e w1 ⟨rfl, rfl⟩))
      go_ret2
      exact ⟨ret_ib (by have := HD.out; omega), rfl⟩
    · by_cases h5 : 65 ≤ c ∧ c ≤ 70
      · obtain ⟨h3, h4⟩ := h5
        have hd : d = c - 55 := by unfold hexV at h; rw [if_neg h1, if_neg h2, if_pos ⟨h3, h4⟩] at h; injection h with h; exact h.symm
        have HD := Lib.hid hd
        clear h h1 h1' h2 hd
        go_enter Tryz.func161, Tryz.ntmps161
        go_wp2_with (first | (go_at_call 44; refine (isDigit_any _ _).mono ?_; rw [H1.out]; rintro e w1 ⟨rfl, rfl⟩))
        go_ret2
        exact ⟨ret_ib (by have := HD.out; omega), rfl⟩
      · unfold hexV at h; rw [if_neg h1, if_neg h2, if_neg h5] at h; cases h
set_option maxRecDepth 100000 in
set_option maxHeartbeats 1000000 in
theorem hexValue_no (c : Int) (w : World) (h : hexV c = none) :
    Calls Tryz.prog 161 #[.int .u8 c] w fun e w' => e = .returned (.tuple #[.int .u8 0, .bool false]) ∧ w = w' := by
  unfold hexV at h
  by_cases h1 : dg c = true
  · rw [if_pos h1] at h; cases h
  rw [if_neg h1] at h
  by_cases h2 : 97 ≤ c ∧ c ≤ 102
  · rw [if_pos h2] at h; cases h
  rw [if_neg h2] at h
  by_cases h3 : 65 ≤ c ∧ c ≤ 70
  · rw [if_pos h3] at h; cases h
  have h1' : dg c = false := by simpa using h1
  have H1 := Lib.hid h1'
  have k : (c < 65 ∨ (70 < c ∧ c < 97) ∨ 102 < c) := by omega
  clear h h1 h1' h2 h3
  rcases k with k | ⟨k1, k2⟩ | k
  all_goals
    go_enter Tryz.func161, Tryz.ntmps161
    go_wp2_with (first | (go_at_call 44; refine (isDigit_any _ _).mono ?_; rw [H1.out]; rintro e w1 ⟨rfl, rfl⟩))
    go_ret2
    exact ⟨rfl, rfl⟩
section
variable {w : World} {b : Nat} {s : ByteArray} {i0 i : Nat} {tk : Value} {F : Flt}
set_option maxRecDepth 100000 in
set_option maxHeartbeats 2000000 in
theorem hex_yes (hS : Scn w b s (pos s i0) (pos s i) tk F) (hz : s.size ≤ 65536) (d f : Int) (h1 : hexV (byteAt s i) = some d) (h2 : hexV (byteAt s (i + 1)) = some f) :
    Calls Tryz.prog 142 #[.pointer (some ⟨b, 0, none⟩)] w fun r w' => r = .returned (.tuple #[.int .u8 (16 * d + f), .bool true]) ∧ Scn w' b s (pos s i0) (pos s (i + 2)) tk F ∧ Only (· = b) w w' := by
  have b1 := hexV_bd h1
  have b2 := hexV_bd h2
  have hl := byteAt_pos (s := s) (i := i + 1) (by omega)
  obtain ⟨-, d0, d1⟩ := b1
  obtain ⟨-, f0, f1⟩ := b2
  have H1 := Lib.hid h1
  have H2 := Lib.hid h2
  clear h1 h2
  go_enter Tryz.func142, Tryz.ntmps142
  go_wp2
  go_loopw [4, 7] (fun n k wr => ∃ (j : Nat) (m : Int), j ≤ 2 ∧ k = .int .i64 j ∧ n = .int .u8 m ∧ Hid ((j = 0 → m = 0) ∧ (j = 1 → m = d) ∧ (j = 2 → m = 16 * d + f)) ∧ Scn wr b s (pos s i0) (pos s (i + j)) tk F ∧ Only (· = b) w wr) (fun _ k _ => 2 - (intOf k).toNat)
  case atStart => exact ⟨0, 0, by omega, rfl, rfl, Lib.hid ⟨fun _ => rfl, fun h => absurd h (by decide), fun h => absurd h (by decide)⟩, hS, Only.refl _ _⟩
  case round =>
    obtain ⟨j, m, hj, rfl, rfl, HM, hS1, hO1⟩ := hrel
    have hj' : j = 0 ∨ j = 1 ∨ j = 2 := by omega
    rcases hj' with rfl | rfl | rfl
    · obtain rfl := HM.out.1 rfl
      go_wp2_with (first | (go_at_call 37; refine (peek0 hS1 rfl hz (by omega)).mono ?_; rintro e w2 ⟨rfl, hO2⟩; have hS2 := hS1.keep hO2) | (go_at_call 161; refine (hexValue_yes _ d _ H1.out).mono ?_; rintro e w3 ⟨rfl, rfl⟩) | (go_at_call 39; refine (skip1 hS2 hz (by omega)).mono ?_; rintro e w4 ⟨rfl, hS4, hO4⟩))
      go_roundw
      case rel => exact ⟨1, d, by omega, rfl, rfl, Lib.hid ⟨fun h => absurd h (by decide), fun _ => rfl, fun h => absurd h (by decide)⟩, hS4, (hO1.trans hO2.lift).trans hO4⟩
      case measure => simp [intOf]
    · obtain rfl := HM.out.2.1 rfl
      go_wp2_with (first | (go_at_call 37; refine (peek0 hS1 rfl hz (by omega)).mono ?_; rintro e w2 ⟨rfl, hO2⟩; have hS2 := hS1.keep hO2) | (go_at_call 161; refine (hexValue_yes _ f _ H2.out).mono ?_; rintro e w3 ⟨rfl, rfl⟩) | (go_at_call 39; refine (skip1 hS2 hz (by omega)).mono ?_; rintro e w4 ⟨rfl, hS4, hO4⟩))
      go_roundw
      case rel => exact ⟨2, 16 * m + f, by omega, rfl, rfl, Lib.hid ⟨fun h => absurd h (by decide), fun h => absurd h (by decide), fun _ => rfl⟩, hS4, (hO1.trans hO2.lift).trans hO4⟩
      case measure => simp [intOf]
    · obtain rfl := HM.out.2.2 rfl
      go_wp2
      go_ret2
      exact ⟨rfl, hS1, hO1⟩
set_option maxRecDepth 100000 in
set_option maxHeartbeats 2000000 in
theorem hex_no1 (hS : Scn w b s (pos s i0) (pos s i) tk F) (hz : s.size ≤ 65536) (hi : i ≤ s.size) (h1 : hexV (byteAt s i) = none) :
    Calls Tryz.prog 142 #[.pointer (some ⟨b, 0, none⟩)] w fun r w' => r = .returned (.tuple #[.int .u8 0, .bool false]) ∧ Bad b s i0 tk (litF s i0 i) w' ∧ Only (· = b) w w' := by
  have H1 := Lib.hid h1
  clear h1
  go_enter Tryz.func142, Tryz.ntmps142
  go_wp2
  go_loopw [7] (fun k wr => k = .int .i64 0 ∧ wr = w) (fun k _ => 0)
  case atStart => exact ⟨rfl, rfl⟩
  case round =>
    obtain ⟨rfl, rfl⟩ := hrel
    go_wp2_with (first | (go_at_call 37; refine (peek0 hS rfl hz hi).mono ?_; rintro e w2 ⟨rfl, hO2⟩; have hS2 := hS.keep hO2) | (go_at_call 161; refine (hexValue_no _ _ H1.out).mono ?_; rintro e w3 ⟨rfl, rfl⟩) | (go_at_call 94; refine (failLit_p hS2 hz hi).mono ?_; rintro e w4 ⟨rfl, hB, hO4⟩))
    go_ret2
    exact ⟨rfl, hB, hO2.lift.trans hO4⟩
set_option maxRecDepth 100000 in
set_option maxHeartbeats 2000000 in
theorem hex_no2 (hS : Scn w b s (pos s i0) (pos s i) tk F) (hz : s.size ≤ 65536) (d : Int) (h1 : hexV (byteAt s i) = some d) (h2 : hexV (byteAt s (i + 1)) = none) :
    Calls Tryz.prog 142 #[.pointer (some ⟨b, 0, none⟩)] w fun r w' => r = .returned (.tuple #[.int .u8 0, .bool false]) ∧ Bad b s i0 tk (litF s i0 (i + 1)) w' ∧ Only (· = b) w w' := by
  have b1 := hexV_bd h1
  have hl := byteAt_pos (s := s) (i := i) (by omega)
  obtain ⟨-, d0, d1⟩ := b1
  have H1 := Lib.hid h1
  have H2 := Lib.hid h2
  clear h1 h2
  go_enter Tryz.func142, Tryz.ntmps142
  go_wp2
  go_loopw [4, 7] (fun n k wr => ∃ (j : Nat) (m : Int), j ≤ 1 ∧ k = .int .i64 j ∧ n = .int .u8 m ∧ Hid ((j = 0 → m = 0) ∧ (j = 1 → m = d)) ∧ Scn wr b s (pos s i0) (pos s (i + j)) tk F ∧ Only (· = b) w wr) (fun _ k _ => 2 - (intOf k).toNat)
  case atStart => exact ⟨0, 0, by omega, rfl, rfl, Lib.hid ⟨fun _ => rfl, fun h => absurd h (by decide)⟩, hS, Only.refl _ _⟩
  case round =>
    obtain ⟨j, m, hj, rfl, rfl, HM, hS1, hO1⟩ := hrel
    have hj' : j = 0 ∨ j = 1 := by omega
    rcases hj' with rfl | rfl
    · obtain rfl := HM.out.1 rfl
      go_wp2_with (first | (go_at_call 37; refine (peek0 hS1 rfl hz (by omega)).mono ?_; rintro e w2 ⟨rfl, hO2⟩; have hS2 := hS1.keep hO2) | (go_at_call 161; refine (hexValue_yes _ d _ H1.out).mono ?_; rintro e w3 ⟨rfl, rfl⟩) | (go_at_call 39; refine (skip1 hS2 hz (by omega)).mono ?_; rintro e w4 ⟨rfl, hS4, hO4⟩))
      go_roundw
      case rel => exact ⟨1, d, by omega, rfl, rfl, Lib.hid ⟨fun h => absurd h (by decide), fun _ => rfl⟩, hS4, (hO1.trans hO2.lift).trans hO4⟩
      case measure => simp [intOf]
    · go_wp2_with (first | (go_at_call 37; refine (peek0 hS1 rfl hz (by omega)).mono ?_; rintro e w2 ⟨rfl, hO2⟩; have hS2 := hS1.keep hO2) | (go_at_call 161; refine (hexValue_no _ _ H2.out).mono ?_; rintro e w3 ⟨rfl, rfl⟩) | (go_at_call 94; refine (failLit_p hS2 hz (by omega)).mono ?_; rintro e w4 ⟨rfl, hB, hO4⟩))
      go_ret2
      exact ⟨rfl, hB, (hO1.trans hO2.lift).trans hO4⟩
set_option maxRecDepth 100000 in
set_option maxHeartbeats 1000000 in
theorem esc_n (hS : Scn w b s (pos s i0) (pos s i) tk F) (hz : s.size ≤ 65536) (hc : byteAt s i = 110) :
    Calls Tryz.prog 117 #[.pointer (some ⟨b, 0, none⟩)] w fun r w' => r = .returned (.tuple #[.int .u8 10, .bool true]) ∧ Scn w' b s (pos s i0) (pos s (i + 1)) tk F ∧ Only (· = b) w w' := by
  have hl := byteAt_pos (s := s) (i := i) (by omega)
  have hi : i ≤ s.size := Nat.le_of_lt hl
  have HC := Lib.hid hc
  clear hc
  go_enter Tryz.func117, Tryz.ntmps117
  go_wp2_with (first | (go_at_call 37; refine (peek0 hS HC.out hz hi).mono ?_; rintro e w2 ⟨rfl, hO2⟩; have hS2 := hS.keep hO2) | (go_at_call 39; refine (skip1 hS2 hz hl).mono ?_; rintro e w4 ⟨rfl, hS4, hO4⟩))
  go_ret2
  exact ⟨rfl, hS4, hO2.lift.trans hO4⟩
set_option maxRecDepth 100000 in
set_option maxHeartbeats 1000000 in
theorem esc_t (hS : Scn w b s (pos s i0) (pos s i) tk F) (hz : s.size ≤ 65536) (hc : byteAt s i = 116) :
    Calls Tryz.prog 117 #[.pointer (some ⟨b, 0, none⟩)] w fun r w' => r = .returned (.tuple #[.int .u8 9, .bool true]) ∧ Scn w' b s (pos s i0) (pos s (i + 1)) tk F ∧ Only (· = b) w w' := by
  have hl := byteAt_pos (s := s) (i := i) (by omega)
  have hi : i ≤ s.size := Nat.le_of_lt hl
  have HC := Lib.hid hc
  clear hc
  go_enter Tryz.func117, Tryz.ntmps117
  go_wp2_with (first | (go_at_call 37; refine (peek0 hS HC.out hz hi).mono ?_; rintro e w2 ⟨rfl, hO2⟩; have hS2 := hS.keep hO2) | (go_at_call 39; refine (skip1 hS2 hz hl).mono ?_; rintro e w4 ⟨rfl, hS4, hO4⟩))
  go_ret2
  exact ⟨rfl, hS4, hO2.lift.trans hO4⟩
set_option maxRecDepth 100000 in
set_option maxHeartbeats 1000000 in
theorem esc_92 (hS : Scn w b s (pos s i0) (pos s i) tk F) (hz : s.size ≤ 65536) (hc : byteAt s i = 92) :
    Calls Tryz.prog 117 #[.pointer (some ⟨b, 0, none⟩)] w fun r w' => r = .returned (.tuple #[.int .u8 92, .bool true]) ∧ Scn w' b s (pos s i0) (pos s (i + 1)) tk F ∧ Only (· = b) w w' := by
  have hl := byteAt_pos (s := s) (i := i) (by omega)
  have hi : i ≤ s.size := Nat.le_of_lt hl
  have HC := Lib.hid hc
  clear hc
  go_enter Tryz.func117, Tryz.ntmps117
  go_wp2_with (first | (go_at_call 37; refine (peek0 hS HC.out hz hi).mono ?_; rintro e w2 ⟨rfl, hO2⟩; have hS2 := hS.keep hO2) | (go_at_call 39; refine (skip1 hS2 hz hl).mono ?_; rintro e w4 ⟨rfl, hS4, hO4⟩))
  go_ret2
  exact ⟨rfl, hS4, hO2.lift.trans hO4⟩
set_option maxRecDepth 100000 in
set_option maxHeartbeats 1000000 in
theorem esc_39 (hS : Scn w b s (pos s i0) (pos s i) tk F) (hz : s.size ≤ 65536) (hc : byteAt s i = 39) :
    Calls Tryz.prog 117 #[.pointer (some ⟨b, 0, none⟩)] w fun r w' => r = .returned (.tuple #[.int .u8 39, .bool true]) ∧ Scn w' b s (pos s i0) (pos s (i + 1)) tk F ∧ Only (· = b) w w' := by
  have hl := byteAt_pos (s := s) (i := i) (by omega)
  have hi : i ≤ s.size := Nat.le_of_lt hl
  have HC := Lib.hid hc
  clear hc
  go_enter Tryz.func117, Tryz.ntmps117
  go_wp2_with (first | (go_at_call 37; refine (peek0 hS HC.out hz hi).mono ?_; rintro e w2 ⟨rfl, hO2⟩; have hS2 := hS.keep hO2) | (go_at_call 39; refine (skip1 hS2 hz hl).mono ?_; rintro e w4 ⟨rfl, hS4, hO4⟩))
  go_ret2
  exact ⟨rfl, hS4, hO2.lift.trans hO4⟩
set_option maxRecDepth 100000 in
set_option maxHeartbeats 1000000 in
theorem esc_34 (hS : Scn w b s (pos s i0) (pos s i) tk F) (hz : s.size ≤ 65536) (hc : byteAt s i = 34) :
    Calls Tryz.prog 117 #[.pointer (some ⟨b, 0, none⟩)] w fun r w' => r = .returned (.tuple #[.int .u8 34, .bool true]) ∧ Scn w' b s (pos s i0) (pos s (i + 1)) tk F ∧ Only (· = b) w w' := by
  have hl := byteAt_pos (s := s) (i := i) (by omega)
  have hi : i ≤ s.size := Nat.le_of_lt hl
  have HC := Lib.hid hc
  clear hc
  go_enter Tryz.func117, Tryz.ntmps117
  go_wp2_with (first | (go_at_call 37; refine (peek0 hS HC.out hz hi).mono ?_; rintro e w2 ⟨rfl, hO2⟩; have hS2 := hS.keep hO2) | (go_at_call 39; refine (skip1 hS2 hz hl).mono ?_; rintro e w4 ⟨rfl, hS4, hO4⟩))
  go_ret2
  exact ⟨rfl, hS4, hO2.lift.trans hO4⟩
set_option maxRecDepth 100000 in
set_option maxHeartbeats 1000000 in
theorem esc_x (hS : Scn w b s (pos s i0) (pos s i) tk F) (hz : s.size ≤ 65536) (hc : byteAt s i = 120) (d f : Int) (h1 : Hid (hexV (byteAt s (i + 1)) = some d)) (h2 : Hid (hexV (byteAt s (i + 1 + 1)) = some f)) :
    Calls Tryz.prog 117 #[.pointer (some ⟨b, 0, none⟩)] w fun r w' => r = .returned (.tuple #[.int .u8 (16 * d + f), .bool true]) ∧ Scn w' b s (pos s i0) (pos s (i + 1 + 2)) tk F ∧ Only (· = b) w w' := by
  have hl := byteAt_pos (s := s) (i := i) (by omega)
  have hi : i ≤ s.size := Nat.le_of_lt hl
  have HC := Lib.hid hc
  clear hc
  go_enter Tryz.func117, Tryz.ntmps117
  go_wp2_with (first | (go_at_call 37; refine (peek0 hS HC.out hz hi).mono ?_; rintro e w2 ⟨rfl, hO2⟩; have hS2 := hS.keep hO2) | (go_at_call 39; refine (skip1 hS2 hz hl).mono ?_; rintro e w4 ⟨rfl, hS4, hO4⟩) | (go_at_call 142; refine (hex_yes hS4 hz d f h1.out h2.out).mono ?_; rintro e w5 ⟨rfl, hS5, hO5⟩))
  go_ret2
  exact ⟨rfl, hS5, (hO2.lift.trans hO4).trans hO5⟩
set_option maxRecDepth 100000 in
set_option maxHeartbeats 1000000 in
theorem esc_x1 (hS : Scn w b s (pos s i0) (pos s i) tk F) (hz : s.size ≤ 65536) (hc : byteAt s i = 120) (h1 : Hid (hexV (byteAt s (i + 1)) = none)) :
    Calls Tryz.prog 117 #[.pointer (some ⟨b, 0, none⟩)] w fun r w' => r = .returned (.tuple #[.int .u8 0, .bool false]) ∧ Bad b s i0 tk (litF s i0 (i + 1)) w' ∧ Only (· = b) w w' := by
  have hl := byteAt_pos (s := s) (i := i) (by omega)
  have hi : i ≤ s.size := Nat.le_of_lt hl
  have HC := Lib.hid hc
  clear hc
  go_enter Tryz.func117, Tryz.ntmps117
  go_wp2_with (first | (go_at_call 37; refine (peek0 hS HC.out hz hi).mono ?_; rintro e w2 ⟨rfl, hO2⟩; have hS2 := hS.keep hO2) | (go_at_call 39; refine (skip1 hS2 hz hl).mono ?_; rintro e w4 ⟨rfl, hS4, hO4⟩) | (go_at_call 142; refine (hex_no1 hS4 hz hl h1.out).mono ?_; rintro e w5 ⟨rfl, hS5, hO5⟩))
  go_ret2
  exact ⟨rfl, hS5, (hO2.lift.trans hO4).trans hO5⟩
set_option maxRecDepth 100000 in
set_option maxHeartbeats 1000000 in
theorem esc_x2 (hS : Scn w b s (pos s i0) (pos s i) tk F) (hz : s.size ≤ 65536) (hc : byteAt s i = 120) (d : Int) (h1 : Hid (hexV (byteAt s (i + 1)) = some d)) (h2 : Hid (hexV (byteAt s (i + 1 + 1)) = none)) :
    Calls Tryz.prog 117 #[.pointer (some ⟨b, 0, none⟩)] w fun r w' => r = .returned (.tuple #[.int .u8 0, .bool false]) ∧ Bad b s i0 tk (litF s i0 (i + 1 + 1)) w' ∧ Only (· = b) w w' := by
  have hl := byteAt_pos (s := s) (i := i) (by omega)
  have hi : i ≤ s.size := Nat.le_of_lt hl
  have HC := Lib.hid hc
  clear hc
  go_enter Tryz.func117, Tryz.ntmps117
  go_wp2_with (first | (go_at_call 37; refine (peek0 hS HC.out hz hi).mono ?_; rintro e w2 ⟨rfl, hO2⟩; have hS2 := hS.keep hO2) | (go_at_call 39; refine (skip1 hS2 hz hl).mono ?_; rintro e w4 ⟨rfl, hS4, hO4⟩) | (go_at_call 142; refine (hex_no2 hS4 hz d h1.out h2.out).mono ?_; rintro e w5 ⟨rfl, hS5, hO5⟩))
  go_ret2
  exact ⟨rfl, hS5, (hO2.lift.trans hO4).trans hO5⟩
set_option maxRecDepth 100000 in
set_option maxHeartbeats 1000000 in
theorem esc_no (hS : Scn w b s (pos s i0) (pos s i) tk F) (hz : s.size ≤ 65536) (hi : i ≤ s.size) (h1 : byteAt s i ≠ 110) (h2 : byteAt s i ≠ 116) (h3 : ¬ (byteAt s i = 92 ∨ byteAt s i = 39 ∨ byteAt s i = 34)) (h4 : byteAt s i ≠ 120) :
    Calls Tryz.prog 117 #[.pointer (some ⟨b, 0, none⟩)] w fun r w' => r = .returned (.tuple #[.int .u8 0, .bool false]) ∧ Bad b s i0 tk (litF s i0 i) w' ∧ Only (· = b) w w' := by
  obtain ⟨c, hc⟩ : ∃ c, byteAt s i = c := ⟨_, rfl⟩
  rw [hc] at h1 h2 h3 h4
  have e1 : (c == 110) = false := by simp [h1]
  have e2 : (c == 116) = false := by simp [h2]
  have e3 : (c == 92) = false := by simp; omega
  have e4 : (c == 39) = false := by simp; omega
  have e5 : (c == 34) = false := by simp; omega
  have e6 : (c == 120) = false := by simp [h4]
  have HC := Lib.hid hc
  clear hc h1 h2 h3 h4
  go_enter Tryz.func117, Tryz.ntmps117
  go_wp2_with (first | (go_at_call 37; refine (peek0 hS HC.out hz hi).mono ?_; rintro e w2 ⟨rfl, hO2⟩; have hS2 := hS.keep hO2) | (go_at_call 94; refine (failLit_p hS2 hz hi).mono ?_; rintro e w4 ⟨rfl, hB, hO4⟩))
  go_ret2
  exact ⟨rfl, hB, hO2.lift.trans hO4⟩
/-- What an answer of a part of a literal does. -/
def LitPost (w : World) (b : Nat) (s : ByteArray) (i0 : Nat) (tk : Value) (F : Flt) (o : RR Int) (r : Ending) (w' : World) : Prop :=
  match o with
  | .ok c e => r = .returned (.tuple #[.int .u8 c, .bool true]) ∧ Scn w' b s (pos s i0) (pos s e) tk F ∧ Only (· = b) w w'
  | .bad f => r = .returned (.tuple #[.int .u8 0, .bool false]) ∧ Bad b s i0 tk f w' ∧ Only (· = b) w w'
theorem escape_p (hS : Scn w b s (pos s i0) (pos s i) tk F) (hz : s.size ≤ 65536) (hi : i ≤ s.size) :
    Calls Tryz.prog 117 #[.pointer (some ⟨b, 0, none⟩)] w (LitPost w b s i0 tk F (escR s i0 i)) := by
  unfold escR
  by_cases h1 : byteAt s i = 110
  · rw [if_pos h1]; exact esc_n hS hz h1
  rw [if_neg h1]
  by_cases h2 : byteAt s i = 116
  · rw [if_pos h2]; exact esc_t hS hz h2
  rw [if_neg h2]
  by_cases h3 : byteAt s i = 92 ∨ byteAt s i = 39 ∨ byteAt s i = 34
  · rw [if_pos h3]
    rcases h3 with h | h | h
    · have := esc_92 hS hz h; rw [h]; exact this
    · have := esc_39 hS hz h; rw [h]; exact this
    · have := esc_34 hS hz h; rw [h]; exact this
  rw [if_neg h3]
  by_cases h4 : byteAt s i = 120
  · rw [if_pos h4]
    unfold hexR
    cases k1 : hexV (byteAt s (i + 1)) with
    | none => exact esc_x1 hS hz h4 (Lib.hid k1)
    | some d =>
      cases k2 : hexV (byteAt s (i + 1 + 1)) with
      | none => exact esc_x2 hS hz h4 d (Lib.hid k1) (Lib.hid k2)
      | some f => exact esc_x hS hz h4 d f (Lib.hid k1) (Lib.hid k2)
  rw [if_neg h4]
  exact esc_no hS hz hi h1 h2 h3 h4
theorem LitPost.wide {w0 : World} {o : RR Int} {r : Ending} {w' : World} (h : LitPost w b s i0 tk F o r w') (ho : Only (· = b) w0 w) : LitPost w0 b s i0 tk F o r w' := by
  cases o with
  | ok c e => exact ⟨h.1, h.2.1, ho.trans h.2.2⟩
  | bad f => exact ⟨h.1, h.2.1, ho.trans h.2.2⟩
set_option maxRecDepth 100000 in
set_option maxHeartbeats 1000000 in
theorem lit_esc (hS : Scn w b s (pos s i0) (pos s i) tk F) (q : Int) (hz : s.size ≤ 65536) (hc : byteAt s i = 92) :
    Calls Tryz.prog 93 #[.pointer (some ⟨b, 0, none⟩), .int .u8 q] w (LitPost w b s i0 tk F (escR s i0 (i + 1))) := by
  have hl := byteAt_pos (s := s) (i := i) (by omega)
  have hi : i ≤ s.size := Nat.le_of_lt hl
  have HC := Lib.hid hc
  clear hc
  cases ho : escR s i0 (i + 1) with
  | ok c f =>
    have HO := Lib.hid ho
    clear ho
    unfold LitPost
    go_enter Tryz.func93, Tryz.ntmps93
    go_wp2_with (first | (go_at_call 37; refine (peek0 hS HC.out hz hi).mono ?_; rintro e w2 ⟨rfl, hO2⟩; have hS2 := hS.keep hO2) | (go_at_call 39; refine (skip1 hS2 hz hl).mono ?_; rintro e w4 ⟨rfl, hS4, hO4⟩) | (go_at_call 117; refine (escape_p hS4 hz hl).mono ?_; rw [HO.out]; rintro e w5 ⟨rfl, hS5, hO5⟩))
    go_ret2
    exact ⟨rfl, hS5, (hO2.lift.trans hO4).trans hO5⟩
  | bad f =>
    have HO := Lib.hid ho
    clear ho
    unfold LitPost
    go_enter Tryz.func93, Tryz.ntmps93
    go_wp2_with (first | (go_at_call 37; refine (peek0 hS HC.out hz hi).mono ?_; rintro e w2 ⟨rfl, hO2⟩; have hS2 := hS.keep hO2) | (go_at_call 39; refine (skip1 hS2 hz hl).mono ?_; rintro e w4 ⟨rfl, hS4, hO4⟩) | (go_at_call 117; refine (escape_p hS4 hz hl).mono ?_; rw [HO.out]; rintro e w5 ⟨rfl, hS5, hO5⟩))
    go_ret2
    exact ⟨rfl, hS5, (hO2.lift.trans hO4).trans hO5⟩
set_option maxRecDepth 100000 in
set_option maxHeartbeats 1000000 in
theorem lit_no (hS : Scn w b s (pos s i0) (pos s i) tk F) (q : Int) (hz : s.size ≤ 65536) (hi : i ≤ s.size) (h1 : byteAt s i ≠ 92) (h2 : byteAt s i = q ∨ prn (byteAt s i) = false) :
    Calls Tryz.prog 93 #[.pointer (some ⟨b, 0, none⟩), .int .u8 q] w (LitPost w b s i0 tk F (litBad s i0 i)) := by
  unfold litBad LitPost
  obtain ⟨c, hc⟩ : ∃ c, byteAt s i = c := ⟨_, rfl⟩
  rw [hc] at h1 h2
  have e1 : (c == 92) = false := by simp [h1]
  have h3 : (c == q) = true ∨ ((c == q) = false ∧ prn c = false) := by
    by_cases e : c = q
    · exact .inl (by simp [e])
    · exact .inr ⟨by simp [e], by rcases h2 with h | h; exact absurd h e; exact h⟩
  have HC := Lib.hid hc
  clear hc h1 h2
  rcases h3 with e2 | ⟨e2, h3⟩
  · go_enter Tryz.func93, Tryz.ntmps93
    go_wp2_with (first | (go_at_call 37; refine (peek0 hS HC.out hz hi).mono ?_; rintro e w2 ⟨rfl, hO2⟩; have hS2 := hS.keep hO2) | (go_at_call 94; refine (failLit_p hS2 hz hi).mono ?_; rintro e w4 ⟨rfl, hB, hO4⟩))
    go_ret2
    exact ⟨rfl, hB, hO2.lift.trans hO4⟩
  · have H3 := Lib.hid h3
    clear h3
    go_enter Tryz.func93, Tryz.ntmps93
    go_wp2_with (first | (go_at_call 37; refine (peek0 hS HC.out hz hi).mono ?_; rintro e w2 ⟨rfl, hO2⟩; have hS2 := hS.keep hO2) | (go_at_call 82; refine (isPrintable_any _ _).mono ?_; rw [H3.out]; rintro e w3 ⟨rfl, rfl⟩) | (go_at_call 94; refine (failLit_p hS2 hz hi).mono ?_; rintro e w4 ⟨rfl, hB, hO4⟩))
    go_ret2
    exact ⟨rfl, hB, hO2.lift.trans hO4⟩
set_option maxRecDepth 100000 in
set_option maxHeartbeats 1000000 in
theorem lit_yes (hS : Scn w b s (pos s i0) (pos s i) tk F) (q : Int) (hz : s.size ≤ 65536) (h1 : byteAt s i ≠ 92) (h2 : ¬ (byteAt s i = q ∨ prn (byteAt s i) = false)) :
    Calls Tryz.prog 93 #[.pointer (some ⟨b, 0, none⟩), .int .u8 q] w (LitPost w b s i0 tk F (.ok (byteAt s i) (i + 1))) := by
  have hpb := prn_bd (fun hc => h2 (.inr hc))
  have hl := byteAt_pos (s := s) (i := i) (by omega)
  have hi : i ≤ s.size := Nat.le_of_lt hl
  have hq : ¬ byteAt s i = q := fun hc => h2 (.inl hc)
  have hp : prn (byteAt s i) = true := by
    cases hp : prn (byteAt s i)
    · exact absurd (.inr hp) h2
    · rfl
  clear h2 hpb
  unfold LitPost
  obtain ⟨c, hc⟩ : ∃ c, byteAt s i = c := ⟨_, rfl⟩
  rw [hc] at h1 hq hp ⊢
  have e1 : (c == 92) = false := by simp [h1]
  have e2 : (c == q) = false := by simp [hq]
  have HC := Lib.hid hc
  have H3 := Lib.hid hp
  clear hc h1 hq hp
  go_enter Tryz.func93, Tryz.ntmps93
  go_wp2_with (first | (go_at_call 37; refine (peek0 hS HC.out hz hi).mono ?_; rintro e w2 ⟨rfl, hO2⟩; have hS2 := hS.keep hO2) | (go_at_call 82; refine (isPrintable_any _ _).mono ?_; rw [H3.out]; rintro e w3 ⟨rfl, rfl⟩) | (go_at_call 39; refine (skip1 hS2 hz hl).mono ?_; rintro e w4 ⟨rfl, hS4, hO4⟩))
  go_ret2
  exact ⟨rfl, hS4, hO2.lift.trans hO4⟩
theorem literalChar_p (hS : Scn w b s (pos s i0) (pos s i) tk F) (q : Int) (hz : s.size ≤ 65536) (hi : i ≤ s.size) :
    Calls Tryz.prog 93 #[.pointer (some ⟨b, 0, none⟩), .int .u8 q] w (LitPost w b s i0 tk F (litR s q i0 i)) := by
  unfold litR
  by_cases h1 : byteAt s i = 92
  · rw [if_pos h1]; exact lit_esc hS q hz h1
  rw [if_neg h1]
  by_cases h2 : byteAt s i = q ∨ prn (byteAt s i) = false
  · rw [if_pos h2]; exact lit_no hS q hz hi h1 h2
  rw [if_neg h2]; exact lit_yes hS q hz h1 h2
end
end Go.Proofs.YtakojceggpljoaaGreatDoor
