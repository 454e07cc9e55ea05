/-
  WALKS. The scanner's small methods, in places of a source: ended, peek, skip, fail, failHere, failLiteral.
  WALKS. The scanner's literals: hexadecimal digits, escapes, literal characters, character literals.
  WALKS. The scanner's units that are tokens: special characters, character literals.
  WALKS. The scanner's string literals.
-/
import Derived.Test.YtelichlplblboaaGreatDoorLsp
import Derived.Maps.AppendAt
import Derived.OwnWalk
import Derived.Laws.BytesString
import Derived.Laws.Cells
import Derived.Deep.DeepMust
namespace Go.Proofs.YtelichlplblboaaGreatDoor
open Go.RowKit
section
variable {w : World} {b : Nat} {s : ByteArray} {i0 i : Nat} {tk : Value} {F : Flt}
theorem ended_no (hS : Scn w b s (pos s i0) (pos s i) tk F) (h : i < s.size) :
    Calls Tryz.prog 38 #[.pointer (some ⟨b, 0, none⟩)] w fun e w' => e = .returned (.bool false) ∧ Only (fun _ => False) w w' :=
  (ended_q hS).mono fun _ _ ⟨he, hO⟩ => ⟨by rw [he, pos_at]; exact ret_bool (by simp; omega), hO⟩
theorem ended_yes (hS : Scn w b s (pos s i0) (pos s i) tk F) (h : i = s.size) :
    Calls Tryz.prog 38 #[.pointer (some ⟨b, 0, none⟩)] w fun e w' => e = .returned (.bool true) ∧ Only (fun _ => False) w w' :=
  (ended_q hS).mono fun _ _ ⟨he, hO⟩ => ⟨by rw [he, pos_at]; exact ret_bool (by simp; omega), hO⟩
theorem peek_v (hS : Scn w b s (pos s i0) (pos s i) tk F) (k : Nat) {c : Int} (hc : byteAt s (i + k) = c) (hk : k ≤ 10) (hz : s.size ≤ 65536) (hi : i ≤ s.size) :
    Calls Tryz.prog 37 #[.pointer (some ⟨b, 0, none⟩), .int .i64 k] w fun e w' => e = .returned (.int .u8 c) ∧ Only (fun _ => False) w w' :=
  (peek_q hS k hk (by omega) (by rw [pos_at]; omega)).mono fun _ _ ⟨he, hO⟩ => ⟨by rw [he, pos_at]; exact ret_int hc, hO⟩
theorem peek0 (hS : Scn w b s (pos s i0) (pos s i) tk F) {c : Int} (hc : byteAt s i = c) (hz : s.size ≤ 65536) (hi : i ≤ s.size) :
    Calls Tryz.prog 37 #[.pointer (some ⟨b, 0, none⟩), .int .i64 0] w fun e w' => e = .returned (.int .u8 c) ∧ Only (fun _ => False) w w' := peek_v hS 0 hc (by omega) hz hi
theorem peek1 (hS : Scn w b s (pos s i0) (pos s i) tk F) {c : Int} (hc : byteAt s (i + 1) = c) (hz : s.size ≤ 65536) (hi : i ≤ s.size) :
    Calls Tryz.prog 37 #[.pointer (some ⟨b, 0, none⟩), .int .i64 1] w fun e w' => e = .returned (.int .u8 c) ∧ Only (fun _ => False) w w' := peek_v hS 1 hc (by omega) hz hi
theorem skip_p (hS : Scn w b s (pos s i0) (pos s i) tk F) (n : Nat) (hz : s.size ≤ 65536) (hi : i + n ≤ s.size) :
    Calls Tryz.prog 39 #[.pointer (some ⟨b, 0, none⟩), .int .i64 n] w fun e w' => e = .returned (.tuple #[]) ∧ Scn w' b s (pos s i0) (pos s (i + n)) tk F ∧ Only (· = b) w w' := by
  obtain ⟨h1, h2, h3, h4⟩ := pos_bd s i
  exact (skip_q hS n (by omega) (by rw [pos_at]; omega) (by omega) h3 (by omega)).mono fun _ _ ⟨he, hs, hO⟩ => ⟨he, by rw [← advN_pos]; exact hs, hO⟩
theorem skip1 (hS : Scn w b s (pos s i0) (pos s i) tk F) (hz : s.size ≤ 65536) (hi : i < s.size) :
    Calls Tryz.prog 39 #[.pointer (some ⟨b, 0, none⟩), .int .i64 1] w fun e w' => e = .returned (.tuple #[]) ∧ Scn w' b s (pos s i0) (pos s (i + 1)) tk F ∧ Only (· = b) w w' := skip_p hS 1 hz hi
theorem skip2 (hS : Scn w b s (pos s i0) (pos s i) tk F) (hz : s.size ≤ 65536) (hi : i + 2 ≤ s.size) :
    Calls Tryz.prog 39 #[.pointer (some ⟨b, 0, none⟩), .int .i64 2] w fun e w' => e = .returned (.tuple #[]) ∧ Scn w' b s (pos s i0) (pos s (i + 2)) tk F ∧ Only (· = b) w w' := skip_p hS 2 hz hi
/-- The scanner has met a fault. -/
def Bad (b : Nat) (s : ByteArray) (i0 : Nat) (tk : Value) (f : Flt) (w' : World) : Prop := ∃ j, Scn w' b s (pos s i0) (pos s j) tk f
theorem fail_p (hS : Scn w b s (pos s i0) (pos s i) tk F) (code : Int) (nm : ByteArray) :
    Calls Tryz.prog 89 #[.pointer (some ⟨b, 0, none⟩), .int .i64 code, .string nm] w fun e w' => e = .returned (.bool false) ∧ Bad b s i0 tk (flt s code nm i0) w' ∧ Only (· = b) w w' :=
  (fail_q hS code nm).mono fun _ _ ⟨he, hs, hO⟩ => ⟨he, ⟨i, hs⟩, hO⟩
theorem failHere_p (hS : Scn w b s (pos s i0) (pos s i) tk F) :
    Calls Tryz.prog 46 #[.pointer (some ⟨b, 0, none⟩)] w fun e w' => e = .returned (.bool false) ∧ Bad b s i0 tk (flt s 5 nil8 i) w' ∧ Only (· = b) w w' :=
  (failHere_q hS).mono fun _ _ ⟨he, hs, hO⟩ => ⟨he, ⟨i, hs⟩, hO⟩
theorem Only.lift {K : Nat → Prop} {w w' : World} (h : Only (fun _ => False) w w') : Only K w w' := h.wide (fun _ hc => hc.elim)
theorem Scn.keep {w' : World} {B H : At} (h : Scn w b s B H tk F) (ho : Only (fun _ => False) w w') : Scn w' b s B H tk F := h.only ho (fun hc => hc)
set_option maxRecDepth 100000 in
set_option maxHeartbeats 1000000 in
theorem failLit_p (hS : Scn w b s (pos s i0) (pos s i) tk F) (hz : s.size ≤ 65536) (hi : i ≤ s.size) :
    Calls Tryz.prog 94 #[.pointer (some ⟨b, 0, none⟩)] w fun e w' => e = .returned (.bool false) ∧ Bad b s i0 tk (litF s i0 i) w' ∧ Only (· = b) w w' := by
  by_cases hl : i < s.size
  · cases hg : gd (byteAt s i)
    · have HF : Hid (litF s i0 i = flt s 5 nil8 i) := Lib.hid (by simp [litF, hl, hg])
      have HG := Lib.hid hg
      clear hg
      go_enter Tryz.func94, Tryz.ntmps94
      go_wp2_with (first | (go_at_call 38; refine (ended_no hS hl).mono ?_; rintro e w1 ⟨rfl, hO1⟩; have hS1 := hS.keep hO1) | (go_at_call 37; refine (peek0 hS1 rfl hz hi).mono ?_; rintro e w2 ⟨rfl, hO2⟩; have hS2 := hS1.keep hO2) | (go_at_call 88; refine (isSourceByte_any _ _).mono ?_; rw [HG.out]; rintro e w3 ⟨rfl, rfl⟩) | (go_at_call 46; refine (failHere_p hS2).mono ?_; rintro e w4 ⟨rfl, hB, hO4⟩))
      go_ret
      exact ⟨rfl, by rw [HF.out]; exact hB, (hO1.lift.trans hO2.lift).trans hO4⟩
    · have HF : Hid (litF s i0 i = flt s 7 nil8 i0) := Lib.hid (by simp [litF, hg])
      have HG := Lib.hid hg
      clear hg
      go_enter Tryz.func94, Tryz.ntmps94
      go_wp2_with (first | (go_at_call 38; refine (ended_no hS hl).mono ?_; rintro e w1 ⟨rfl, hO1⟩; have hS1 := hS.keep hO1) | (go_at_call 37; refine (peek0 hS1 rfl hz hi).mono ?_; rintro e w2 ⟨rfl, hO2⟩; have hS2 := hS1.keep hO2) | (go_at_call 88; refine (isSourceByte_any _ _).mono ?_; rw [HG.out]; rintro e w3 ⟨rfl, rfl⟩) | (go_at_call 89; refine (fail_p hS2 _ _).mono ?_; rintro e w4 ⟨rfl, hB, hO4⟩))
      go_ret
      exact ⟨rfl, by rw [HF.out]; exact hB, (hO1.lift.trans hO2.lift).trans hO4⟩
  · have HF : Hid (litF s i0 i = flt s 7 nil8 i0) := Lib.hid (by simp [litF, hl])
    have he : i = s.size := by omega
    clear hl
    go_enter Tryz.func94, Tryz.ntmps94
    have HE := Lib.hid he
    clear he
    go_wp2_with (first | (go_at_call 38; refine (ended_yes hS HE.out).mono ?_; rintro e w1 ⟨rfl, hO1⟩; have hS1 := hS.keep hO1) | (go_at_call 89; refine (fail_p hS1 _ _).mono ?_; rintro e w4 ⟨rfl, hB, hO4⟩))
    go_ret
    exact ⟨rfl, by rw [HF.out]; exact hB, hO1.lift.trans hO4⟩
end
end Go.Proofs.YtelichlplblboaaGreatDoor
namespace Go.Proofs.YtelichlplblboaaGreatDoor
open Go.RowKit
theorem ret_ib {k : IntKind} {a b : Int} {x : Bool} (h : a = b) : Ending.returned (.tuple #[.int k a, .bool x]) = Ending.returned (.tuple #[.int k b, .bool x]) := by rw [h]
set_option maxRecDepth 100000 in
set_option maxHeartbeats 1000000 in
theorem hexValue_yes (c d : Int) (w : World) (h : hexV c = some d) :
    Calls Tryz.prog 161 #[.int .u8 c] w fun e w' => e = .returned (.tuple #[.int .u8 d, .bool true]) ∧ w = w' := by
  by_cases h1 : dg c = true
  · have hb := dg_bd h1
    have hd : d = c - 48 := by unfold hexV at h; rw [if_pos h1] at h; injection h with h; exact h.symm
    have H1 := Lib.hid h1
    have HD := Lib.hid hd
    clear h h1 hd
    go_enter Tryz.func161, Tryz.ntmps161
    go_wp2_with (first | (go_at_call 44; refine (isDigit_any _ _).mono ?_; rw [H1.out]; rintro e w1 ⟨rfl, rfl⟩))
    go_ret2
    exact ⟨ret_ib HD.out.symm, rfl⟩
  · have h1' : dg c = false := by simpa using h1
    have H1 := Lib.hid h1'
    by_cases h2 : 97 ≤ c ∧ c ≤ 102
    · obtain ⟨h3, h4⟩ := h2
      have hd : d = c - 87 := by unfold hexV at h; rw [if_neg h1, if_pos ⟨h3, h4⟩] at h; injection h with h; exact h.symm
      have HD := Lib.hid hd
      clear h h1 h1' hd
      go_enter Tryz.func161, Tryz.ntmps161
      go_wp2_with (first | (go_at_call 44; refine (isDigit_any _ _).mono ?_; rw [H1.out]; rintro e w1 ⟨rfl, rfl⟩))
      go_ret2
      exact ⟨ret_ib (by have := HD.out; omega), rfl⟩
    · by_cases h5 : 65 ≤ c ∧ c ≤ 70
      · obtain ⟨h3, h4⟩ := h5
        have hd : d = c - 55 := by unfold hexV at h; rw [if_neg h1, if_neg h2, if_pos ⟨h3, h4⟩] at h; injection h with h; exact h.symm
        have HD := Lib.hid hd
        clear h h1 h1' h2 hd
        go_enter Tryz.func161, Tryz.ntmps161
        go_wp2_with (first | (go_at_call 44; refine (isDigit_any _ _).mono ?_; rw [H1.out]; rintro e w1 ⟨rfl, rfl⟩))
        go_ret2
        exact ⟨ret_ib (by have := HD.out; omega), rfl⟩
      · unfold hexV at h; rw [if_neg h1, if_neg h2, if_neg h5] at h; cases h
set_option maxRecDepth 100000 in
set_option maxHeartbeats 1000000 in
theorem hexValue_no (c : Int) (w : World) (h : hexV c = none) :
    Calls Tryz.prog 161 #[.int .u8 c] w fun e w' => e = .returned (.tuple #[.int .u8 0, .bool false]) ∧ w = w' := by
  unfold hexV at h
  by_cases h1 : dg c = true
  · rw [if_pos h1] at h; cases h
  rw [if_neg h1] at h
  by_cases h2 : 97 ≤ c ∧ c ≤ 102
  · rw [if_pos h2] at h; cases h
  rw [if_neg h2] at h
  by_cases h3 : 65 ≤ c ∧ c ≤ 70
  · rw [if_pos h3] at h; cases h
  have h1' : dg c = false := by simpa using h1
  have H1 := Lib.hid h1'
  have k : (c < 65 ∨ (70 < c ∧ c < 97) ∨ 102 < c) := by omega
  clear h h1 h1' h2 h3
  rcases k with k | ⟨k1, k2⟩ | k
  all_goals
    go_enter Tryz.func161, Tryz.ntmps161
    go_wp2_with (first | (go_at_call 44; refine (isDigit_any _ _).mono ?_; rw [H1.out]; rintro e w1 ⟨rfl, rfl⟩))
    go_ret2
    exact ⟨rfl, rfl⟩
section
variable {w : World} {b : Nat} {s : ByteArray} {i0 i : Nat} {tk : Value} {F : Flt}
set_option maxRecDepth 100000 in
set_option maxHeartbeats 2000000 in
theorem hex_yes (hS : Scn w b s (pos s i0) (pos s i) tk F) (hz : s.size ≤ 65536) (d f : Int) (h1 : hexV (byteAt s i) = some d) (h2 : hexV (byteAt s (i + 1)) = some f) :
    Calls Tryz.prog 142 #[.pointer (some ⟨b, 0, none⟩)] w fun r w' => r = .returned (.tuple #[.int .u8 (16 * d + f), .bool true]) ∧ Scn w' b s (pos s i0) (pos s (i + 2)) tk F ∧ Only (· = b) w w' := by
  have b1 := hexV_bd h1
  have b2 := hexV_bd h2
  have hl := byteAt_pos (s := s) (i := i + 1) (by omega)
  obtain ⟨-, d0, d1⟩ := b1
  obtain ⟨-, f0, f1⟩ := b2
  have H1 := Lib.hid h1
  have H2 := Lib.hid h2
  clear h1 h2
  go_enter Tryz.func142, Tryz.ntmps142
  go_wp2
  go_loopw [4, 7] (fun n k wr => ∃ (j : Nat) (m : Int), j ≤ 2 ∧ k = .int .i64 j ∧ n = .int .u8 m ∧ Hid ((j = 0 → m = 0) ∧ (j = 1 → m = d) ∧ (j = 2 → m = 16 * d + f)) ∧ Scn wr b s (pos s i0) (pos s (i + j)) tk F ∧ Only (· = b) w wr) (fun _ k _ => 2 - (intOf k).toNat)
  case atStart => exact ⟨0, 0, by omega, rfl, rfl, Lib.hid ⟨fun _ => rfl, fun h => absurd h (by decide), fun h => absurd h (by decide)⟩, hS, Only.refl _ _⟩
  case round =>
    obtain ⟨j, m, hj, rfl, rfl, HM, hS1, hO1⟩ := hrel
    have hj' : j = 0 ∨ j = 1 ∨ j = 2 := by omega
    rcases hj' with rfl | rfl | rfl
    · obtain rfl := HM.out.1 rfl
      go_wp2_with (first | (go_at_call 37; refine (peek0 hS1 rfl hz (by omega)).mono ?_; rintro e w2 ⟨rfl, hO2⟩; have hS2 := hS1.keep hO2) | (go_at_call 161; refine (hexValue_yes _ d _ H1.out).mono ?_; rintro e w3 ⟨rfl, rfl⟩) | (go_at_call 39; refine (skip1 hS2 hz (by omega)).mono ?_; rintro e w4 ⟨rfl, hS4, hO4⟩))
      go_roundw
      case rel => exact ⟨1, d, by omega, rfl, rfl, Lib.hid ⟨fun h => absurd h (by decide), fun _ => rfl, fun h => absurd h (by decide)⟩, hS4, (hO1.trans hO2.lift).trans hO4⟩
      case measure => simp [intOf]
    · obtain rfl := HM.out.2.1 rfl
      go_wp2_with (first | (go_at_call 37; refine (peek0 hS1 rfl hz (by omega)).mono ?_; rintro e w2 ⟨rfl, hO2⟩; have hS2 := hS1.keep hO2) | (go_at_call 161; refine (hexValue_yes _ f _ H2.out).mono ?_; rintro e w3 ⟨rfl, rfl⟩) | (go_at_call 39; refine (skip1 hS2 hz (by omega)).mono ?_; rintro e w4 ⟨rfl, hS4, hO4⟩))
      go_roundw
      case rel => exact ⟨2, 16 * m + f, by omega, rfl, rfl, Lib.hid ⟨fun h => absurd h (by decide), fun h => absurd h (by decide), fun _ => rfl⟩, hS4, (hO1.trans hO2.lift).trans hO4⟩
      case measure => simp [intOf]
    · obtain rfl := HM.out.2.2 rfl
      go_wp2
      go_ret2
      exact ⟨rfl, hS1, hO1⟩
set_option maxRecDepth 100000 in
set_option maxHeartbeats 2000000 in
theorem hex_no1 (hS : Scn w b s (pos s i0) (pos s i) tk F) (hz : s.size ≤ 65536) (hi : i ≤ s.size) (h1 : hexV (byteAt s i) = none) :
    Calls Tryz.prog 142 #[.pointer (some ⟨b, 0, none⟩)] w fun r w' => r = .returned (.tuple #[.int .u8 0, .bool false]) ∧ Bad b s i0 tk (litF s i0 i) w' ∧ Only (· = b) w w' := by
  have H1 := Lib.hid h1
  clear h1
  go_enter Tryz.func142, Tryz.ntmps142
  go_wp2
  go_loopw [7] (fun k wr => k = .int .i64 0 ∧ wr = w) (fun k _ => 0)
  case atStart => exact ⟨rfl, rfl⟩
  case round =>
    obtain ⟨rfl, rfl⟩ := hrel
    go_wp2_with (first | (go_at_call 37; refine (peek0 hS rfl hz hi).mono ?_; rintro e w2 ⟨rfl, hO2⟩; have hS2 := hS.keep hO2) | (go_at_call 161; refine (hexValue_no _ _ H1.out).mono ?_; rintro e w3 ⟨rfl, rfl⟩) | (go_at_call 94; refine (failLit_p hS2 hz hi).mono ?_; rintro e w4 ⟨rfl, hB, hO4⟩))
    go_ret2
    exact ⟨rfl, hB, hO2.lift.trans hO4⟩
set_option maxRecDepth 100000 in
set_option maxHeartbeats 2000000 in
theorem hex_no2 (hS : Scn w b s (pos s i0) (pos s i) tk F) (hz : s.size ≤ 65536) (d : Int) (h1 : hexV (byteAt s i) = some d) (h2 : hexV (byteAt s (i + 1)) = none) :
    Calls Tryz.prog 142 #[.pointer (some ⟨b, 0, none⟩)] w fun r w' => r = .returned (.tuple #[.int .u8 0, .bool false]) ∧ Bad b s i0 tk (litF s i0 (i + 1)) w' ∧ Only (· = b) w w' := by
  have b1 := hexV_bd h1
  have hl := byteAt_pos (s := s) (i := i) (by omega)
  obtain ⟨-, d0, d1⟩ := b1
  have H1 := Lib.hid h1
  have H2 := Lib.hid h2
  clear h1 h2
  go_enter Tryz.func142, Tryz.ntmps142
  go_wp2
  go_loopw [4, 7] (fun n k wr => ∃ (j : Nat) (m : Int), j ≤ 1 ∧ k = .int .i64 j ∧ n = .int .u8 m ∧ Hid ((j = 0 → m = 0) ∧ (j = 1 → m = d)) ∧ Scn wr b s (pos s i0) (pos s (i + j)) tk F ∧ Only (· = b) w wr) (fun _ k _ => 2 - (intOf k).toNat)
  case atStart => exact ⟨0, 0, by omega, rfl, rfl, Lib.hid ⟨fun _ => rfl, fun h => absurd h (by decide)⟩, hS, Only.refl _ _⟩
  case round =>
    obtain ⟨j, m, hj, rfl, rfl, HM, hS1, hO1⟩ := hrel
    have hj' : j = 0 ∨ j = 1 := by omega
    rcases hj' with rfl | rfl
    · obtain rfl := HM.out.1 rfl
      go_wp2_with (first | (go_at_call 37; refine (peek0 hS1 rfl hz (by omega)).mono ?_; rintro e w2 ⟨rfl, hO2⟩; have hS2 := hS1.keep hO2) | (go_at_call 161; refine (hexValue_yes _ d _ H1.out).mono ?_; rintro e w3 ⟨rfl, rfl⟩) | (go_at_call 39; refine (skip1 hS2 hz (by omega)).mono ?_; rintro e w4 ⟨rfl, hS4, hO4⟩))
      go_roundw
      case rel => exact ⟨1, d, by omega, rfl, rfl, Lib.hid ⟨fun h => absurd h (by decide), fun _ => rfl⟩, hS4, (hO1.trans hO2.lift).trans hO4⟩
      case measure => simp [intOf]
    · go_wp2_with (first | (go_at_call 37; refine (peek0 hS1 rfl hz (by omega)).mono ?_; rintro e w2 ⟨rfl, hO2⟩; have hS2 := hS1.keep hO2) | (go_at_call 161; refine (hexValue_no _ _ H2.out).mono ?_; rintro e w3 ⟨rfl, rfl⟩) | (go_at_call 94; refine (failLit_p hS2 hz (by omega)).mono ?_; rintro e w4 ⟨rfl, hB, hO4⟩))
      go_ret2
      exact ⟨rfl, hB, (hO1.trans hO2.lift).trans hO4⟩
set_option maxRecDepth 100000 in
set_option maxHeartbeats 1000000 in
theorem esc_n (hS : Scn w b s (pos s i0) (pos s i) tk F) (hz : s.size ≤ 65536) (hc : byteAt s i = 110) :
    Calls Tryz.prog 117 #[.pointer (some ⟨b, 0, none⟩)] w fun r w' => r = .returned (.tuple #[.int .u8 10, .bool true]) ∧ Scn w' b s (pos s i0) (pos s (i + 1)) tk F ∧ Only (· = b) w w' := by
  have hl := byteAt_pos (s := s) (i := i) (by omega)
  have hi : i ≤ s.size := Nat.le_of_lt hl
  have HC := Lib.hid hc
  clear hc
  go_enter Tryz.func117, Tryz.ntmps117
  go_wp2_with (first | (go_at_call 37; refine (peek0 hS HC.out hz hi).mono ?_; rintro e w2 ⟨rfl, hO2⟩; have hS2 := hS.keep hO2) | (go_at_call 39; refine (skip1 hS2 hz hl).mono ?_; rintro e w4 ⟨rfl, hS4, hO4⟩))
  go_ret2
  exact ⟨rfl, hS4, hO2.lift.trans hO4⟩
set_option maxRecDepth 100000 in
set_option maxHeartbeats 1000000 in
theorem esc_t (hS : Scn w b s (pos s i0) (pos s i) tk F) (hz : s.size ≤ 65536) (hc : byteAt s i = 116) :
    Calls Tryz.prog 117 #[.pointer (some ⟨b, 0, none⟩)] w fun r w' => r = .returned (.tuple #[.int .u8 9, .bool true]) ∧ Scn w' b s (pos s i0) (pos s (i + 1)) tk F ∧ Only (· = b) w w' := by
  have hl := byteAt_pos (s := s) (i := i) (by omega)
  have hi : i ≤ s.size := Nat.le_of_lt hl
  have HC := Lib.hid hc
  clear hc
  go_enter Tryz.func117, Tryz.ntmps117
  go_wp2_with (first | (go_at_call 37; refine (peek0 hS HC.out hz hi).mono ?_; rintro e w2 ⟨rfl, hO2⟩; have hS2 := hS.keep hO2) | (go_at_call 39; refine (skip1 hS2 hz hl).mono ?_; rintro e w4 ⟨rfl, hS4, hO4⟩))
  go_ret2
  exact ⟨rfl, hS4, hO2.lift.trans hO4⟩
set_option maxRecDepth 100000 in
set_option maxHeartbeats 1000000 in
theorem esc_92 (hS : Scn w b s (pos s i0) (pos s i) tk F) (hz : s.size ≤ 65536) (hc : byteAt s i = 92) :
    Calls Tryz.prog 117 #[.pointer (some ⟨b, 0, none⟩)] w fun r w' => r = .returned (.tuple #[.int .u8 92, .bool true]) ∧ Scn w' b s (pos s i0) (pos s (i + 1)) tk F ∧ Only (· = b) w w' := by
  have hl := byteAt_pos (s := s) (i := i) (by omega)
  have hi : i ≤ s.size := Nat.le_of_lt hl
  have HC := Lib.hid hc
  clear hc
  go_enter Tryz.func117, Tryz.ntmps117
  go_wp2_with (first | (go_at_call 37; refine (peek0 hS HC.out hz hi).mono ?_; rintro e w2 ⟨rfl, hO2⟩; have hS2 := hS.keep hO2) | (go_at_call 39; refine (skip1 hS2 hz hl).mono ?_; rintro e w4 ⟨rfl, hS4, hO4⟩))
  go_ret2
  exact ⟨rfl, hS4, hO2.lift.trans hO4⟩
set_option maxRecDepth 100000 in
set_option maxHeartbeats 1000000 in
theorem esc_39 (hS : Scn w b s (pos s i0) (pos s i) tk F) (hz : s.size ≤ 65536) (hc : byteAt s i = 39) :
    Calls Tryz.prog 117 #[.pointer (some ⟨b, 0, none⟩)] w fun r w' => r = .returned (.tuple #[.int .u8 39, .bool true]) ∧ Scn w' b s (pos s i0) (pos s (i + 1)) tk F ∧ Only (· = b) w w' := by
  have hl := byteAt_pos (s := s) (i := i) (by omega)
  have hi : i ≤ s.size := Nat.le_of_lt hl
  have HC := Lib.hid hc
  clear hc
  go_enter Tryz.func117, Tryz.ntmps117
  go_wp2_with (first | (go_at_call 37; refine (peek0 hS HC.out hz hi).mono ?_; rintro e w2 ⟨rfl, hO2⟩; have hS2 := hS.keep hO2) | (go_at_call 39; refine (skip1 hS2 hz hl).mono ?_; rintro e w4 ⟨rfl, hS4, hO4⟩))
  go_ret2
  exact ⟨rfl, hS4, hO2.lift.trans hO4⟩
set_option maxRecDepth 100000 in
set_option maxHeartbeats 1000000 in
theorem esc_34 (hS : Scn w b s (pos s i0) (pos s i) tk F) (hz : s.size ≤ 65536) (hc : byteAt s i = 34) :
    Calls Tryz.prog 117 #[.pointer (some ⟨b, 0, none⟩)] w fun r w' => r = .returned (.tuple #[.int .u8 34, .bool true]) ∧ Scn w' b s (pos s i0) (pos s (i + 1)) tk F ∧ Only (· = b) w w' := by
  have hl := byteAt_pos (s := s) (i := i) (by omega)
  have hi : i ≤ s.size := Nat.le_of_lt hl
  have HC := Lib.hid hc
  clear hc
  go_enter Tryz.func117, Tryz.ntmps117
  go_wp2_with (first | (go_at_call 37; refine (peek0 hS HC.out hz hi).mono ?_; rintro e w2 ⟨rfl, hO2⟩; have hS2 := hS.keep hO2) | (go_at_call 39; refine (skip1 hS2 hz hl).mono ?_; rintro e w4 ⟨rfl, hS4, hO4⟩))
  go_ret2
  exact ⟨rfl, hS4, hO2.lift.trans hO4⟩
set_option maxRecDepth 100000 in
set_option maxHeartbeats 1000000 in
theorem esc_x (hS : Scn w b s (pos s i0) (pos s i) tk F) (hz : s.size ≤ 65536) (hc : byteAt s i = 120) (d f : Int) (h1 : Hid (hexV (byteAt s (i + 1)) = some d)) (h2 : Hid (hexV (byteAt s (i + 1 + 1)) = some f)) :
    Calls Tryz.prog 117 #[.pointer (some ⟨b, 0, none⟩)] w fun r w' => r = .returned (.tuple #[.int .u8 (16 * d + f), .bool true]) ∧ Scn w' b s (pos s i0) (pos s (i + 1 + 2)) tk F ∧ Only (· = b) w w' := by
  have hl := byteAt_pos (s := s) (i := i) (by omega)
  have hi : i ≤ s.size := Nat.le_of_lt hl
  have HC := Lib.hid hc
  clear hc
  go_enter Tryz.func117, Tryz.ntmps117
  go_wp2_with (first | (go_at_call 37; refine (peek0 hS HC.out hz hi).mono ?_; rintro e w2 ⟨rfl, hO2⟩; have hS2 := hS.keep hO2) | (go_at_call 39; refine (skip1 hS2 hz hl).mono ?_; rintro e w4 ⟨rfl, hS4, hO4⟩) | (go_at_call 142; refine (hex_yes hS4 hz d f h1.out h2.out).mono ?_; rintro e w5 ⟨rfl, hS5, hO5⟩))
  go_ret2
  exact ⟨rfl, hS5, (hO2.lift.trans hO4).trans hO5⟩
set_option maxRecDepth 100000 in
set_option maxHeartbeats 1000000 in
theorem esc_x1 (hS : Scn w b s (pos s i0) (pos s i) tk F) (hz : s.size ≤ 65536) (hc : byteAt s i = 120) (h1 : Hid (hexV (byteAt s (i + 1)) = none)) :
    Calls Tryz.prog 117 #[.pointer (some ⟨b, 0, none⟩)] w fun r w' => r = .returned (.tuple #[.int .u8 0, .bool false]) ∧ Bad b s i0 tk (litF s i0 (i + 1)) w' ∧ Only (· = b) w w' := by
  have hl := byteAt_pos (s := s) (i := i) (by omega)
  have hi : i ≤ s.size := Nat.le_of_lt hl
  have HC := Lib.hid hc
  clear hc
  go_enter Tryz.func117, Tryz.ntmps117
  go_wp2_with (first | (go_at_call 37; refine (peek0 hS HC.out hz hi).mono ?_; rintro e w2 ⟨rfl, hO2⟩; have hS2 := hS.keep hO2) | (go_at_call 39; refine (skip1 hS2 hz hl).mono ?_; rintro e w4 ⟨rfl, hS4, hO4⟩) | (go_at_call 142; refine (hex_no1 hS4 hz hl h1.out).mono ?_; rintro e w5 ⟨rfl, hS5, hO5⟩))
  go_ret2
  exact ⟨rfl, hS5, (hO2.lift.trans hO4).trans hO5⟩
set_option maxRecDepth 100000 in
set_option maxHeartbeats 1000000 in
theorem esc_x2 (hS : Scn w b s (pos s i0) (pos s i) tk F) (hz : s.size ≤ 65536) (hc : byteAt s i = 120) (d : Int) (h1 : Hid (hexV (byteAt s (i + 1)) = some d)) (h2 : Hid (hexV (byteAt s (i + 1 + 1)) = none)) :
    Calls Tryz.prog 117 #[.pointer (some ⟨b, 0, none⟩)] w fun r w' => r = .returned (.tuple #[.int .u8 0, .bool false]) ∧ Bad b s i0 tk (litF s i0 (i + 1 + 1)) w' ∧ Only (· = b) w w' := by
  have hl := byteAt_pos (s := s) (i := i) (by omega)
  have hi : i ≤ s.size := Nat.le_of_lt hl
  have HC := Lib.hid hc
  clear hc
  go_enter Tryz.func117, Tryz.ntmps117
  go_wp2_with (first | (go_at_call 37; refine (peek0 hS HC.out hz hi).mono ?_; rintro e w2 ⟨rfl, hO2⟩; have hS2 := hS.keep hO2) | (go_at_call 39; refine (skip1 hS2 hz hl).mono ?_; rintro e w4 ⟨rfl, hS4, hO4⟩) | (go_at_call 142; refine (hex_no2 hS4 hz d h1.out h2.out).mono ?_; rintro e w5 ⟨rfl, hS5, hO5⟩))
  go_ret2
  exact ⟨rfl, hS5, (hO2.lift.trans hO4).trans hO5⟩
set_option maxRecDepth 100000 in
set_option maxHeartbeats 1000000 in
theorem esc_no (hS : Scn w b s (pos s i0) (pos s i) tk F) (hz : s.size ≤ 65536) (hi : i ≤ s.size) (h1 : byteAt s i ≠ 110) (h2 : byteAt s i ≠ 116) (h3 : ¬ (byteAt s i = 92 ∨ byteAt s i = 39 ∨ byteAt s i = 34)) (h4 : byteAt s i ≠ 120) :
    Calls Tryz.prog 117 #[.pointer (some ⟨b, 0, none⟩)] w fun r w' => r = .returned (.tuple #[.int .u8 0, .bool false]) ∧ Bad b s i0 tk (litF s i0 i) w' ∧ Only (· = b) w w' := by
  obtain ⟨c, hc⟩ : ∃ c, byteAt s i = c := ⟨_, rfl⟩
  rw [hc] at h1 h2 h3 h4
  have e1 : (c == 110) = false := by simp [h1]
  have e2 : (c == 116) = false := by simp [h2]
  have e3 : (c == 92) = false := by simp; omega
  have e4 : (c == 39) = false := by simp; omega
  have e5 : (c == 34) = false := by simp; omega
  have e6 : (c == 120) = false := by simp [h4]
  have HC := Lib.hid hc
  clear hc h1 h2 h3 h4
  go_enter Tryz.func117, Tryz.ntmps117
  go_wp2_with (first | (go_at_call 37; refine (peek0 hS HC.out hz hi).mono ?_; rintro e w2 ⟨rfl, hO2⟩; have hS2 := hS.keep hO2) | (go_at_call 94; refine (failLit_p hS2 hz hi).mono ?_; rintro e w4 ⟨rfl, hB, hO4⟩))
  go_ret2
  exact ⟨rfl, hB, hO2.lift.trans hO4⟩
/-- What an answer of a part of a literal does. -/
def LitPost (w : World) (b : Nat) (s : ByteArray) (i0 : Nat) (tk : Value) (F : Flt) (o : RR Int) (r : Ending) (w' : World) : Prop :=
  match o with
  | .ok c e => r = .returned (.tuple #[.int .u8 c, .bool true]) ∧ Scn w' b s (pos s i0) (pos s e) tk F ∧ Only (· = b) w w'
  | .bad f => r = .returned (.tuple #[.int .u8 0, .bool false]) ∧ Bad b s i0 tk f w' ∧ Only (· = b) w w'
theorem escape_p (hS : Scn w b s (pos s i0) (pos s i) tk F) (hz : s.size ≤ 65536) (hi : i ≤ s.size) :
    Calls Tryz.prog 117 #[.pointer (some ⟨b, 0, none⟩)] w (LitPost w b s i0 tk F (escR s i0 i)) := by
  unfold escR
  by_cases h1 : byteAt s i = 110
  · rw [if_pos h1]; exact esc_n hS hz h1
  rw [if_neg h1]
  by_cases h2 : byteAt s i = 116
  · rw [if_pos h2]; exact esc_t hS hz h2
  rw [if_neg h2]
  by_cases h3 : byteAt s i = 92 ∨ byteAt s i = 39 ∨ byteAt s i = 34
  · rw [if_pos h3]
    rcases h3 with h | h | h
    · have := esc_92 hS hz h; rw [h]; exact this
    · have := esc_39 hS hz h; rw [h]; exact this
    · have := esc_34 hS hz h; rw [h]; exact this
  rw [if_neg h3]
  by_cases h4 : byteAt s i = 120
  · rw [if_pos h4]
    unfold hexR
    cases k1 : hexV (byteAt s (i + 1)) with
    | none => exact esc_x1 hS hz h4 (Lib.hid k1)
    | some d =>
      cases k2 : hexV (byteAt s (i + 1 + 1)) with
      | none => exact esc_x2 hS hz h4 d (Lib.hid k1) (Lib.hid k2)
      | some f => exact esc_x hS hz h4 d f (Lib.hid k1) (Lib.hid k2)
  rw [if_neg h4]
  exact esc_no hS hz hi h1 h2 h3 h4
theorem LitPost.wide {w0 : World} {o : RR Int} {r : Ending} {w' : World} (h : LitPost w b s i0 tk F o r w') (ho : Only (· = b) w0 w) : LitPost w0 b s i0 tk F o r w' := by
  cases o with
  | ok c e => exact ⟨h.1, h.2.1, ho.trans h.2.2⟩
  | bad f => exact ⟨h.1, h.2.1, ho.trans h.2.2⟩
set_option maxRecDepth 100000 in
set_option maxHeartbeats 1000000 in
theorem lit_esc (hS : Scn w b s (pos s i0) (pos s i) tk F) (q : Int) (hz : s.size ≤ 65536) (hc : byteAt s i = 92) :
    Calls Tryz.prog 93 #[.pointer (some ⟨b, 0, none⟩), .int .u8 q] w (LitPost w b s i0 tk F (escR s i0 (i + 1))) := by
  have hl := byteAt_pos (s := s) (i := i) (by omega)
  have hi : i ≤ s.size := Nat.le_of_lt hl
  have HC := Lib.hid hc
  clear hc
  cases ho : escR s i0 (i + 1) with
  | ok c f =>
    have HO := Lib.hid ho
    clear ho
    unfold LitPost
    go_enter Tryz.func93, Tryz.ntmps93
    go_wp2_with (first | (go_at_call 37; refine (peek0 hS HC.out hz hi).mono ?_; rintro e w2 ⟨rfl, hO2⟩; have hS2 := hS.keep hO2) | (go_at_call 39; refine (skip1 hS2 hz hl).mono ?_; rintro e w4 ⟨rfl, hS4, hO4⟩) | (go_at_call 117; refine (escape_p hS4 hz hl).mono ?_; rw [HO.out]; rintro e w5 ⟨rfl, hS5, hO5⟩))
    go_ret2
    exact ⟨rfl, hS5, (hO2.lift.trans hO4).trans hO5⟩
  | bad f =>
    have HO := Lib.hid ho
    clear ho
    unfold LitPost
    go_enter Tryz.func93, Tryz.ntmps93
    go_wp2_with (first | (go_at_call 37; refine (peek0 hS HC.out hz hi).mono ?_; rintro e w2 ⟨rfl, hO2⟩; have hS2 := hS.keep hO2) | (go_at_call 39; refine (skip1 hS2 hz hl).mono ?_; rintro e w4 ⟨rfl, hS4, hO4⟩) | (go_at_call 117; refine (escape_p hS4 hz hl).mono ?_; rw [HO.out]; rintro e w5 ⟨rfl, hS5, hO5⟩))
    go_ret2
    exact ⟨rfl, hS5, (hO2.lift.trans hO4).trans hO5⟩
set_option maxRecDepth 100000 in
set_option maxHeartbeats 1000000 in
theorem lit_no (hS : Scn w b s (pos s i0) (pos s i) tk F) (q : Int) (hz : s.size ≤ 65536) (hi : i ≤ s.size) (h1 : byteAt s i ≠ 92) (h2 : byteAt s i = q ∨ prn (byteAt s i) = false) :
    Calls Tryz.prog 93 #[.pointer (some ⟨b, 0, none⟩), .int .u8 q] w (LitPost w b s i0 tk F (litBad s i0 i)) := by
  unfold litBad LitPost
  obtain ⟨c, hc⟩ : ∃ c, byteAt s i = c := ⟨_, rfl⟩
  rw [hc] at h1 h2
  have e1 : (c == 92) = false := by simp [h1]
  have h3 : (c == q) = true ∨ ((c == q) = false ∧ prn c = false) := by
    by_cases e : c = q
    · exact .inl (by simp [e])
    · exact .inr ⟨by simp [e], by rcases h2 with h | h; exact absurd h e; exact h⟩
  have HC := Lib.hid hc
  clear hc h1 h2
  rcases h3 with e2 | ⟨e2, h3⟩
  · go_enter Tryz.func93, Tryz.ntmps93
    go_wp2_with (first | (go_at_call 37; refine (peek0 hS HC.out hz hi).mono ?_; rintro e w2 ⟨rfl, hO2⟩; have hS2 := hS.keep hO2) | (go_at_call 94; refine (failLit_p hS2 hz hi).mono ?_; rintro e w4 ⟨rfl, hB, hO4⟩))
    go_ret2
    exact ⟨rfl, hB, hO2.lift.trans hO4⟩
  · have H3 := Lib.hid h3
    clear h3
    go_enter Tryz.func93, Tryz.ntmps93
    go_wp2_with (first | (go_at_call 37; refine (peek0 hS HC.out hz hi).mono ?_; rintro e w2 ⟨rfl, hO2⟩; have hS2 := hS.keep hO2) | (go_at_call 82; refine (isPrintable_any _ _).mono ?_; rw [H3.out]; rintro e w3 ⟨rfl, rfl⟩) | (go_at_call 94; refine (failLit_p hS2 hz hi).mono ?_; rintro e w4 ⟨rfl, hB, hO4⟩))
    go_ret2
    exact ⟨rfl, hB, hO2.lift.trans hO4⟩
set_option maxRecDepth 100000 in
set_option maxHeartbeats 1000000 in
theorem lit_yes (hS : Scn w b s (pos s i0) (pos s i) tk F) (q : Int) (hz : s.size ≤ 65536) (h1 : byteAt s i ≠ 92) (h2 : ¬ (byteAt s i = q ∨ prn (byteAt s i) = false)) :
    Calls Tryz.prog 93 #[.pointer (some ⟨b, 0, none⟩), .int .u8 q] w (LitPost w b s i0 tk F (.ok (byteAt s i) (i + 1))) := by
  have hpb := prn_bd (fun hc => h2 (.inr hc))
  have hl := byteAt_pos (s := s) (i := i) (by omega)
  have hi : i ≤ s.size := Nat.le_of_lt hl
  have hq : ¬ byteAt s i = q := fun hc => h2 (.inl hc)
  have hp : prn (byteAt s i) = true := by
    cases hp : prn (byteAt s i)
    · exact absurd (.inr hp) h2
    · rfl
  clear h2 hpb
  unfold LitPost
  obtain ⟨c, hc⟩ : ∃ c, byteAt s i = c := ⟨_, rfl⟩
  rw [hc] at h1 hq hp ⊢
  have e1 : (c == 92) = false := by simp [h1]
  have e2 : (c == q) = false := by simp [hq]
  have HC := Lib.hid hc
  have H3 := Lib.hid hp
  clear hc h1 hq hp
  go_enter Tryz.func93, Tryz.ntmps93
  go_wp2_with (first | (go_at_call 37; refine (peek0 hS HC.out hz hi).mono ?_; rintro e w2 ⟨rfl, hO2⟩; have hS2 := hS.keep hO2) | (go_at_call 82; refine (isPrintable_any _ _).mono ?_; rw [H3.out]; rintro e w3 ⟨rfl, rfl⟩) | (go_at_call 39; refine (skip1 hS2 hz hl).mono ?_; rintro e w4 ⟨rfl, hS4, hO4⟩))
  go_ret2
  exact ⟨rfl, hS4, hO2.lift.trans hO4⟩
theorem literalChar_p (hS : Scn w b s (pos s i0) (pos s i) tk F) (q : Int) (hz : s.size ≤ 65536) (hi : i ≤ s.size) :
    Calls Tryz.prog 93 #[.pointer (some ⟨b, 0, none⟩), .int .u8 q] w (LitPost w b s i0 tk F (litR s q i0 i)) := by
  unfold litR
  by_cases h1 : byteAt s i = 92
  · rw [if_pos h1]; exact lit_esc hS q hz h1
  rw [if_neg h1]
  by_cases h2 : byteAt s i = q ∨ prn (byteAt s i) = false
  · rw [if_pos h2]; exact lit_no hS q hz hi h1 h2
  rw [if_neg h2]; exact lit_yes hS q hz h1 h2
end
end Go.Proofs.YtelichlplblboaaGreatDoor
namespace Go.Proofs.YtelichlplblboaaGreatDoor
open Go.RowKit
/-- A token without its position, as a value. -/
abbrev tkC (t : Tk) : Value := .agg #[.int .i64 t.op, .string t.qual, .string t.text, .int .i64 t.n, .bool false, .int .i64 0, .int .i64 0]
abbrev tkZ : Value := .agg #[.int .i64 0, .string ⟨#[]⟩, .string ⟨#[]⟩, .int .i64 0, .bool false, .int .i64 0, .int .i64 0]
/-- A token's variable that holds nothing yet, at g. -/
def RB (w : World) (g : Nat) : Prop := w.heap[g]? = some (.cells #[.int .i64 0, .string ⟨#[]⟩, .string ⟨#[]⟩, .int .i64 0, .bool false, .int .i64 0, .int .i64 0] 38 (0, 0))
theorem new_block (w : World) (o : Obj) : (w.alloc o).heap[w.heap.size]? = some o := by
  show (w.heap.push o)[w.heap.size]? = _
  simp
theorem RB.new (w : World) : RB (w.alloc (.cells #[.int .i64 0, .string ⟨#[]⟩, .string ⟨#[]⟩, .int .i64 0, .bool false, .int .i64 0, .int .i64 0] 38)) w.heap.size := new_block _ _
theorem RB.only {w w' : World} {g : Nat} {K : Nat → Prop} (h : RB w g) (ho : Only K w w') (hk : ¬ K g) : RB w' g := (ho.block g (lt_of_block h) hk).trans h
theorem RB.c0 {w : World} {g : Nat} (h : RB w g) : w.cell? ⟨g, 0, none⟩ = some (.int .i64 0) := by have h' := h; unfold RB at h'; simp [World.cell?, h']
theorem RB.c1 {w : World} {g : Nat} (h : RB w g) : w.cell? ⟨g, 1, none⟩ = some (.string ⟨#[]⟩) := by have h' := h; unfold RB at h'; simp [World.cell?, h']
theorem RB.c2 {w : World} {g : Nat} (h : RB w g) : w.cell? ⟨g, 2, none⟩ = some (.string ⟨#[]⟩) := by have h' := h; unfold RB at h'; simp [World.cell?, h']
theorem RB.c3 {w : World} {g : Nat} (h : RB w g) : w.cell? ⟨g, 3, none⟩ = some (.int .i64 0) := by have h' := h; unfold RB at h'; simp [World.cell?, h']
theorem RB.c4 {w : World} {g : Nat} (h : RB w g) : w.cell? ⟨g, 4, none⟩ = some (.bool false) := by have h' := h; unfold RB at h'; simp [World.cell?, h']
theorem RB.c5 {w : World} {g : Nat} (h : RB w g) : w.cell? ⟨g, 5, none⟩ = some (.int .i64 0) := by have h' := h; unfold RB at h'; simp [World.cell?, h']
theorem RB.c6 {w : World} {g : Nat} (h : RB w g) : w.cell? ⟨g, 6, none⟩ = some (.int .i64 0) := by have h' := h; unfold RB at h'; simp [World.cell?, h']
theorem RB.fz {w : World} {g : Nat} (h : RB w g) (k : Nat) : w.frozen? ⟨g, k, none⟩ = false := by have h' := h; unfold RB at h'; simp [World.frozen?, h']
/-- What touches beside K new blocks alone. -/
theorem Only.then {K K' : Nat → Prop} {a b c : World} (h : Only K a b) (k : Only K' b c) (hk : ∀ i, K' i → K i ∨ a.heap.size ≤ i) : Only K a c :=
  ⟨k.os.trans h.os, k.tape.trans h.tape, k.output.trans h.output, Nat.le_trans h.size k.size, fun i hi hn => (k.block i (Nat.lt_of_lt_of_le hi h.size) (fun hc => (hk i hc).elim hn (fun hl => by omega))).trans (h.block i hi hn)⟩
/-- Seven cells of block g are stored. -/
theorem Only.set7 (w : World) (g : Nat) (v0 v1 v2 v3 v4 v5 v6 : Value) :
    Only (· = g) w (((((((w.setCell ⟨g, 0, none⟩ v0).setCell ⟨g, 1, none⟩ v1).setCell ⟨g, 2, none⟩ v2).setCell ⟨g, 3, none⟩ v3).setCell ⟨g, 4, none⟩ v4).setCell ⟨g, 5, none⟩ v5).setCell ⟨g, 6, none⟩ v6) :=
  (((((((Only.refl (· = g) w).setCell (k := 0) rfl _).setCell (k := 1) rfl _).setCell (k := 2) rfl _).setCell (k := 3) rfl _).setCell (k := 4) rfl _).setCell (k := 5) rfl _).setCell (k := 6) rfl _
section
variable {w : World} {b : Nat} {s : ByteArray} {i0 i : Nat} {tk : Value} {F : Flt}
theorem Scn.bat_p {H : At} (h : Scn w b s (pos s i0) H tk F) : w.cell? ⟨b, 1, none⟩ = some (.int .i64 i0) := by have := h.bat; rwa [pos_at] at this
theorem Scn.hat_p {B : At} (h : Scn w b s B (pos s i) tk F) : w.cell? ⟨b, 4, none⟩ = some (.int .i64 i) := by have := h.hat; rwa [pos_at] at this
theorem Scn.alloc {B H : At} (h : Scn w b s B H tk F) (o : Obj) : Scn (w.alloc o) b s B H tk F := h.below ((Below.refl _ _).alloc (Nat.le_refl _) _)
theorem Bad.only {w' : World} {f : Flt} {K : Nat → Prop} (h : Bad b s i0 tk f w) (ho : Only K w w') (hk : ¬ K b) : Bad b s i0 tk f w' := by
  obtain ⟨j, hj⟩ := h; exact ⟨j, hj.only ho hk⟩
/-- What a unit that is a token does. -/
def TokPost (w : World) (b : Nat) (s : ByteArray) (i0 : Nat) (tk : Value) (F : Flt) (o : RR Tk) (r : Ending) (w' : World) : Prop :=
  match o with
  | .ok t e => r = .returned (.tuple #[tkC t, .bool true]) ∧ Scn w' b s (pos s i0) (pos s e) tk F ∧ Only (· = b) w w'
  | .bad f => r = .returned (.tuple #[tkZ, .bool false]) ∧ Bad b s i0 tk f w' ∧ Only (· = b) w w'
/-- From the world behind a unit's calls to the one behind the store of its result. -/
theorem tok_ok {w1 w2 : World} {e g : Nat} {t : Tk} {o : Obj} {r : Ending} (hr : r = .returned (.tuple #[tkC t, .bool true])) (h1 : w.heap.size = g) (hb : b < g) (hS : Scn w1 b s (pos s i0) (pos s e) tk F) (hO : Only (· = b) (w.alloc o) w1) (h2 : Only (· = g) w1 w2) :
    TokPost w b s i0 tk F (.ok t e) r w2 :=
  ⟨hr, hS.only h2 (by omega), ((Only.of_below ((Below.refl _ _).alloc (Nat.le_refl _) o)).trans hO).then h2 (fun i hi => .inr (by omega))⟩
theorem tok_bad {w1 w2 : World} {f : Flt} {g : Nat} {o : Obj} {r : Ending} (hr : r = .returned (.tuple #[tkZ, .bool false])) (h1 : w.heap.size = g) (hb : b < g) (hS : Bad b s i0 tk f w1) (hO : Only (· = b) (w.alloc o) w1) (h2 : Only (· = g) w1 w2) :
    TokPost w b s i0 tk F (.bad f) r w2 :=
  ⟨hr, hS.only h2 (by omega), ((Only.of_below ((Below.refl _ _).alloc (Nat.le_refl _) o)).trans hO).then h2 (fun i hi => .inr (by omega))⟩
set_option maxRecDepth 100000 in
set_option maxHeartbeats 1000000 in
theorem special_p (hS : Scn w b s (pos s i) (pos s i) tk F) (hz : s.size ≤ 65536) (hl : i < s.size) :
    Calls Tryz.prog 54 #[.pointer (some ⟨b, 0, none⟩)] w (TokPost w b s i tk F (.ok ⟨8, nil8, s.extract i (i + 1), 0⟩ (i + 1))) := by
  have hSz := hS.lt
  have hR := RB.new w
  have hS0 := hS.alloc (.cells #[.int .i64 0, .string ⟨#[]⟩, .string ⟨#[]⟩, .int .i64 0, .bool false, .int .i64 0, .int .i64 0] 38)
  go_enter Tryz.func54, Tryz.ntmps54
  go_wp2_with (first | (go_at_call 39; refine (skip1 hS0 hz hl).mono ?_; rintro e w4 ⟨rfl, hS4, hO4⟩))
  have hR4 := hR.only hO4 (by omega)
  have c0 := hS4.src'
  have c1 := hS4.bat_p
  have c4 := hS4.hat_p
  have d0 := hR4.c0
  have d1 := hR4.c1
  have d2 := hR4.c2
  have d3 := hR4.c3
  have d4 := hR4.c4
  have d5 := hR4.c5
  have d6 := hR4.c6
  have z0 := hR4.fz 0
  have z1 := hR4.fz 1
  have z2 := hR4.fz 2
  have z3 := hR4.fz 3
  have z4 := hR4.fz 4
  have z5 := hR4.fz 5
  have z6 := hR4.fz 6
  go_region
  all_goals
    go_wp2
    exact bodyPost_ret (v := .tuple #[tkC ⟨8, nil8, s.extract i (i + 1), 0⟩, .bool true]) (by simp [results, Tryz.results54, go_sem, nil8, d0, d1, d2, d3, d4, d5, d6]) rfl (tok_ok rfl rfl hSz hS4 hO4 (Only.set7 _ _ _ _ _ _ _ _ _).drew)
-- GEN
set_option maxRecDepth 100000 in
set_option maxHeartbeats 2000000 in
theorem character_p (hS : Scn w b s (pos s i) (pos s i) tk F) (hz : s.size ≤ 65536) (hl : i < s.size) :
    Calls Tryz.prog 52 #[.pointer (some ⟨b, 0, none⟩)] w (TokPost w b s i tk F (chrR s i)) := by
  have hSz := hS.lt
  have hR := RB.new w
  have hS0 := hS.alloc (.cells #[.int .i64 0, .string ⟨#[]⟩, .string ⟨#[]⟩, .int .i64 0, .bool false, .int .i64 0, .int .i64 0] 38)
  cases ho : litR s 39 i (i + 1) with
  | bad f =>
    have HO := Lib.hid ho
    have HP : Hid (chrR s i = .bad f) := Lib.hid (by unfold chrR; rw [ho])
    clear ho
    rw [HP.out]
    go_enter Tryz.func52, Tryz.ntmps52
    go_wp2_with (first | (go_at_call 39; refine (skip1 hS0 hz hl).mono ?_; rintro e w4 ⟨rfl, hS4, hO4⟩) | (go_at_call 93; refine (literalChar_p hS4 39 hz hl).mono ?_; rw [HO.out]; rintro e w5 ⟨rfl, hS5, hO5⟩; have hO6 := hO4.trans hO5; have hR5 := hR.only hO6 (by omega); have d0 := hR5.c0; have d1 := hR5.c1; have d2 := hR5.c2; have d3 := hR5.c3; have d4 := hR5.c4; have d5 := hR5.c5; have d6 := hR5.c6; have z0 := hR5.fz 0; have z1 := hR5.fz 1; have z2 := hR5.fz 2; have z3 := hR5.fz 3; have z4 := hR5.fz 4; have z5 := hR5.fz 5; have z6 := hR5.fz 6))
    exact bodyPost_ret (v := .tuple #[tkZ, .bool false]) (by simp [results, Tryz.results52, go_sem, d0, d1, d2, d3, d4, d5, d6]) rfl (tok_bad rfl rfl hSz hS5 hO6 (Only.set7 _ _ _ _ _ _ _ _ _))
  | ok c f =>
    have hb := litR_ok ho
    obtain ⟨-, hb1, hb2, hb3⟩ := hb
    have HO := Lib.hid ho
    by_cases hq : byteAt s f = 39
    · have hfl := byteAt_pos (s := s) (i := f) (by omega)
      have HQ := Lib.hid hq
      have HP : Hid (chrR s i = .ok ⟨6, nil8, nil8, c⟩ (f + 1)) := Lib.hid (by unfold chrR; rw [ho]; simp only [hq, if_true])
      clear ho hq
      rw [HP.out]
      go_enter Tryz.func52, Tryz.ntmps52
      go_wp2_with (first | (go_at_call 39; refine (skip1 hS0 hz hl).mono ?_; rintro e w4 ⟨rfl, hS4, hO4⟩) | (go_at_call 93; refine (literalChar_p hS4 39 hz hl).mono ?_; rw [HO.out]; rintro e w5 ⟨rfl, hS5, hO5⟩) | (go_at_call 37; refine (peek0 hS5 HQ.out hz hb1).mono ?_; rintro e w6 ⟨rfl, hO6⟩; have hS6 := hS5.keep hO6) | (go_at_call 39; refine (skip1 hS6 hz hfl).mono ?_; rintro e w7 ⟨rfl, hS7, hO7⟩; have hO8 := ((hO4.trans hO5).trans hO6.lift).trans hO7; have hR7 := hR.only hO8 (by omega); have d0 := hR7.c0; have d1 := hR7.c1; have d2 := hR7.c2; have d3 := hR7.c3; have d4 := hR7.c4; have d5 := hR7.c5; have d6 := hR7.c6; have z0 := hR7.fz 0; have z1 := hR7.fz 1; have z2 := hR7.fz 2; have z3 := hR7.fz 3; have z4 := hR7.fz 4; have z5 := hR7.fz 5; have z6 := hR7.fz 6))
      exact bodyPost_ret (v := .tuple #[tkC ⟨6, nil8, nil8, c⟩, .bool true]) (by simp [results, Tryz.results52, go_sem, nil8, d0, d1, d2, d3, d4, d5, d6]) rfl (tok_ok rfl rfl hSz hS7 hO8 (Only.set7 _ _ _ _ _ _ _ _ _))
    · have HQ : Hid ((byteAt s f != 39) = true) := Lib.hid (by simp [hq])
      have HP : Hid (chrR s i = litBad s i f) := Lib.hid (by unfold chrR; rw [ho]; simp only [hq, if_false])
      clear ho hq
      rw [HP.out]
      unfold litBad
      obtain ⟨y, hy⟩ : ∃ y, byteAt s f = y := ⟨_, rfl⟩
      have e39 : (y != 39) = true := by rw [← hy]; exact HQ.out
      have HY := Lib.hid hy
      clear hy
      go_enter Tryz.func52, Tryz.ntmps52
      go_wp2_with (first | (go_at_call 39; refine (skip1 hS0 hz hl).mono ?_; rintro e w4 ⟨rfl, hS4, hO4⟩) | (go_at_call 93; refine (literalChar_p hS4 39 hz hl).mono ?_; rw [HO.out]; rintro e w5 ⟨rfl, hS5, hO5⟩) | (go_at_call 37; refine (peek0 hS5 HY.out hz hb1).mono ?_; rintro e w6 ⟨rfl, hO6⟩; have hS6 := hS5.keep hO6) | (go_at_call 94; refine (failLit_p hS6 hz hb1).mono ?_; rintro e w7 ⟨rfl, hS7, hO7⟩; have hO8 := ((hO4.trans hO5).trans hO6.lift).trans hO7; have hR7 := hR.only hO8 (by omega); have d0 := hR7.c0; have d1 := hR7.c1; have d2 := hR7.c2; have d3 := hR7.c3; have d4 := hR7.c4; have d5 := hR7.c5; have d6 := hR7.c6; have z0 := hR7.fz 0; have z1 := hR7.fz 1; have z2 := hR7.fz 2; have z3 := hR7.fz 3; have z4 := hR7.fz 4; have z5 := hR7.fz 5; have z6 := hR7.fz 6))
      exact bodyPost_ret (v := .tuple #[tkZ, .bool false]) (by simp [results, Tryz.results52, go_sem, d0, d1, d2, d3, d4, d5, d6]) rfl (tok_bad rfl rfl hSz hS7 hO8 (Only.set7 _ _ _ _ _ _ _ _ _))
theorem intF_stop {s : ByteArray} {i0 : Nat} (k : Nat) {i : Nat} {n : Int} (h : dg (byteAt s i) = false) : intF s i0 k i n = .ok ⟨5, nil8, nil8, n⟩ i := by
  cases k with
  | zero => rfl
  | succ k => unfold intF; rw [h]; rfl
set_option maxRecDepth 100000 in
set_option maxHeartbeats 2000000 in
theorem integer_p (hS : Scn w b s (pos s i) (pos s i) tk F) (hz : s.size ≤ 65536) (hi : i ≤ s.size) :
    Calls Tryz.prog 51 #[.pointer (some ⟨b, 0, none⟩)] w (TokPost w b s i tk F (intR s i)) := by
  have hSz := hS.lt
  have hR := RB.new w
  have hS0 := hS.alloc (.cells #[.int .i64 0, .string ⟨#[]⟩, .string ⟨#[]⟩, .int .i64 0, .bool false, .int .i64 0, .int .i64 0] 38)
  go_enter Tryz.func51, Tryz.ntmps51
  go_wp2
  go_loopg [4] (s.size - i) (fun k n wr => ∃ (j : Nat) (m : Int), n = .int .i64 m ∧ Hid (intF s i k j m = intR s i) ∧ j + k = s.size ∧ 0 ≤ m ∧ m ≤ 9223372036854775807 ∧ Scn wr b s (pos s i) (pos s j) tk F ∧ Only (· = b) (w.alloc (.cells #[.int .i64 0, .string ⟨#[]⟩, .string ⟨#[]⟩, .int .i64 0, .bool false, .int .i64 0, .int .i64 0] 38)) wr)
  case atStart => exact ⟨i, 0, rfl, Lib.hid rfl, by omega, by omega, by omega, hS0, Only.refl _ _⟩
  case round =>
    obtain ⟨j, m, rfl, HI, hj, hm0, hm1, hS1, hO1⟩ := hrel
    have hji : j ≤ s.size := by omega
    obtain ⟨y, hy⟩ : ∃ y, byteAt s j = y := ⟨_, rfl⟩
    have HY := Lib.hid hy
    cases hd : dg y
    · have HP : Hid (intR s i = .ok ⟨5, nil8, nil8, m⟩ j) := Lib.hid (by rw [← HI.out]; exact intF_stop gk (by rw [hy]; exact hd))
      have HD := Lib.hid hd
      clear hd hy
      go_wp2_with (first | (go_at_call 37; ((with_reducible refine (peek0 hS1 HY.out hz hji).mono ?_); rintro e w2 ⟨rfl, hO2⟩; have hS2 := hS1.keep hO2)) | (go_at_call 37; ((with_reducible refine (peek0 hS2 HY.out hz hji).mono ?_); rintro e w4 ⟨rfl, hO4⟩; have hS4 := hS2.keep hO4)) | (go_at_call 44; refine (isDigit_any _ _).mono ?_; rw [HD.out]; rintro e w3 ⟨rfl, rfl⟩; have hO8 := hO1.trans hO2.lift; have hR7 := hR.only hO8 (by omega); have d0 := hR7.c0; have d1 := hR7.c1; have d2 := hR7.c2; have d3 := hR7.c3; have d4 := hR7.c4; have d5 := hR7.c5; have d6 := hR7.c6; have z0 := hR7.fz 0; have z1 := hR7.fz 1; have z2 := hR7.fz 2; have z3 := hR7.fz 3; have z4 := hR7.fz 4; have z5 := hR7.fz 5; have z6 := hR7.fz 6))
      exact bodyPost_ret (v := .tuple #[tkC ⟨5, nil8, nil8, m⟩, .bool true]) (by simp [results, Tryz.results51, go_sem, nil8, d0, d1, d2, d3, d4, d5, d6]) rfl (by rw [HP.out]; exact tok_ok rfl rfl hSz hS2 hO8 (Only.set7 _ _ _ _ _ _ _ _ _))
    · have hb := dg_bd hd
      obtain ⟨hb1, hb2⟩ := hb
      have hjl := byteAt_pos (s := s) (i := j) (by omega)
      obtain ⟨k', hk'⟩ : ∃ k', gk = k' + 1 := ⟨gk - 1, by omega⟩
      subst hk'
      have HD := Lib.hid hd
      by_cases hbig : (9223372036854775807 - (y - 48)) / 10 < m
      · have HP : Hid (intR s i = .bad (flt s 6 nil8 i)) := Lib.hid (by have h := HI.out; unfold intF at h; rw [hy, if_pos hd, if_pos hbig] at h; exact h.symm)
        clear hd hy
        go_wp2_with (first | (go_at_call 37; ((with_reducible refine (peek0 hS1 HY.out hz hji).mono ?_); rintro e w2 ⟨rfl, hO2⟩; have hS2 := hS1.keep hO2)) | (go_at_call 37; ((with_reducible refine (peek0 hS2 HY.out hz hji).mono ?_); rintro e w4 ⟨rfl, hO4⟩; have hS4 := hS2.keep hO4)) | (go_at_call 44; refine (isDigit_any _ _).mono ?_; rw [HD.out]; rintro e w3 ⟨rfl, rfl⟩) | (go_at_call 89; refine (fail_p hS4 6 _).mono ?_; rintro e w5 ⟨rfl, hB5, hO5⟩; have hO8 := ((hO1.trans hO2.lift).trans hO4.lift).trans hO5; have hR7 := hR.only hO8 (by omega); have d0 := hR7.c0; have d1 := hR7.c1; have d2 := hR7.c2; have d3 := hR7.c3; have d4 := hR7.c4; have d5 := hR7.c5; have d6 := hR7.c6; have z0 := hR7.fz 0; have z1 := hR7.fz 1; have z2 := hR7.fz 2; have z3 := hR7.fz 3; have z4 := hR7.fz 4; have z5 := hR7.fz 5; have z6 := hR7.fz 6))
        exact bodyPost_ret (v := .tuple #[tkZ, .bool false]) (by simp [results, Tryz.results51, go_sem, d0, d1, d2, d3, d4, d5, d6]) rfl (by rw [HP.out]; exact tok_bad rfl rfl hSz hB5 hO8 (Only.set7 _ _ _ _ _ _ _ _ _))
      · have HP : Hid (intF s i k' (j + 1) (10 * m + (y - 48)) = intR s i) := Lib.hid (by have h := HI.out; unfold intF at h; rw [hy, if_pos hd, if_neg hbig] at h; exact h)
        clear hd hy
        go_wp2_with (first | (go_at_call 37; ((with_reducible refine (peek0 hS1 HY.out hz hji).mono ?_); rintro e w2 ⟨rfl, hO2⟩; have hS2 := hS1.keep hO2)) | (go_at_call 37; ((with_reducible refine (peek0 hS2 HY.out hz hji).mono ?_); rintro e w4 ⟨rfl, hO4⟩; have hS4 := hS2.keep hO4)) | (go_at_call 44; refine (isDigit_any _ _).mono ?_; rw [HD.out]; rintro e w3 ⟨rfl, rfl⟩) | (go_at_call 39; refine (skip1 hS4 hz hjl).mono ?_; rintro e w5 ⟨rfl, hS5, hO5⟩))
        go_roundg k'
        case rel => exact ⟨j + 1, 10 * m + (y - 48), rfl, HP, by omega, by omega, by omega, hS5, ((hO1.trans hO2.lift).trans hO4.lift).trans hO5⟩
        case measure => omega
end
end Go.Proofs.YtelichlplblboaaGreatDoor
namespace Go.Proofs.YtelichlplblboaaGreatDoor
open Go.RowKit Go.Maps
theorem infoU8 : (Tryz.prog.info? 5).map (fun i => (i.zero, i.size, i.bytes)) = some (some (.int .u8 0), 1, 1) := by kernel_rfl
theorem one_u8 (c : Int) : ∀ u ∈ [Value.int .u8 c], u.oneCell' = true := by
  intro u hu; simp at hu; subst hu; rfl
theorem rowKeep {w w' : World} {B n size : Nat} {e : TypeId} {v : Value} {xs : List Value} (h : w.ownsRow B e size v n xs) (hb : ∀ g, v.ownBlock = some g → w'.heap[g]? = w.heap[g]?) : w'.ownsRow B e size v n xs := by
  obtain ⟨h1, h2⟩ := h
  refine ⟨h1, ?_⟩
  rcases h2 with hn | ⟨g, cap, cur, hv, hB, hg, hr⟩
  · exact .inl hn
  · refine .inr ⟨g, cap, cur, hv, hB, ?_, hr⟩
    rw [hb g (by rw [hv]; rfl)]; exact hg
theorem rowForm {w : World} {B n size : Nat} {e : TypeId} {v : Value} {xs : List Value} (h : w.ownsRow B e size v n xs) : ∃ oa ca, v = .slice oa n ca := by
  rcases h.2 with ⟨hv, hn⟩ | ⟨g, cap, cur, hv, -⟩
  · exact ⟨none, 0, by rw [hn]; exact hv⟩
  · exact ⟨some ⟨g, 0, none⟩, cap, hv⟩
/-- Bytes in a row of the call's own. -/
def BR (w : World) (B : Nat) (v : Value) (l : List UInt8) : Prop := w.ownsRow B 5 1 v l.length (l.map fun c => Value.int .u8 (c.toNat : Int))
theorem BR.only {w w' : World} {B : Nat} {v : Value} {l : List UInt8} {K : Nat → Prop} (h : BR w B v l) (ho : Only K w w') (hk : ∀ i, K i → i < B) : BR w' B v l :=
  rowKeep h (fun g hg => ho.block g ((World.ownsRow.lt h g hg).2) (fun hc => by have := (World.ownsRow.lt h g hg).1; have := hk g hc; omega))
theorem pushes (ns : List UInt8) : ∀ (r : ByteArray), (ns.map fun c => (c.toNat : Int)).foldl (fun r n => r.push (UInt8.ofNat n.toNat)) r = ⟨r.data ++ ns.toArray⟩ := by
  induction ns with
  | nil => intro r; simp
  | cons c ns ih =>
    intro r
    rw [List.map_cons, List.foldl_cons, ih]
    congr 1
    simp [ByteArray.push]
theorem conv_bytes {w : World} {B : Nat} {v : Value} {l : List UInt8} (h : BR w B v l) : (convert 31 9 v).run Tryz.prog w = .ok (.string ⟨l.toArray⟩) w := by
  have hb := @World.ownsRow.cells _ _ _ _ _ _ _ h
  rcases h.2 with ⟨hv, hn⟩ | ⟨g, cap, cur, hv, -⟩
  · have hl : l = [] := List.length_eq_zero_iff.1 hn
    subst hl; subst hv
    rw [run_convert_bytes_string w _ _ _ _ _ _ Tryz.underlying31 Tryz.underlying5 Tryz.underlying9]
    rfl
  · subst hv
    rw [run_convert_bytes_string w _ _ _ _ _ _ Tryz.underlying31 Tryz.underlying5 Tryz.underlying9]
    have hc := hb (g := g) rfl
    have hl := run_loadCells_list (P := Tryz.prog) (w := w) ⟨g, 0, none⟩ (l.map fun c => Value.int .u8 (c.toNat : Int)) hc
    rw [List.length_map] at hl
    rw [run_bytesToString w ⟨g, 0, none⟩ l.length cap (l.map fun c => (c.toNat : Int)) (by rw [List.map_map]; exact hl), pushes]
    simp [ByteArray.empty, ByteArray.emptyWithCapacity]
    rfl
theorem BR.snoc {w : World} {B : Nat} {v : Value} {l : List UInt8} {c : Int} (h0 : 0 ≤ c) (h1 : c ≤ 255) (h : w.ownsRow B 5 1 v (l.length + 1) ((l.map fun c => Value.int .u8 (c.toNat : Int)) ++ [Value.int .u8 c])) : BR w B v (l ++ [c.toNat.toUInt8]) := by
  unfold BR
  rw [List.length_append, List.map_append, List.map_cons, List.map_nil]
  have e : ((c.toNat.toUInt8.toNat : Nat) : Int) = c := by
    have : c.toNat.toUInt8.toNat = c.toNat % 256 := by simp [Nat.toUInt8]
    omega
  rw [e]; exact h
section
variable {w : World} {b : Nat} {s : ByteArray} {i0 i : Nat} {tk : Value} {F : Flt}
theorem Scn.grown {w' : World} {B H : At} {row : Option Nat} (h : Scn w b s B H tk F) (hg : w.grownBy w' row) (hne : row ≠ some b) : Scn w' b s B H tk F :=
  (hg.block b h.lt (fun e => hne e.symm)).trans h
theorem Only.grown {w w' : World} {K : Nat → Prop} {row : Option Nat} (hg : w.grownBy w' row) (hk : ∀ g, row = some g → K g) : Only K w w' :=
  ⟨hg.os, hg.tape, hg.output, hg.size, fun i hi hn => hg.block i hi (fun e => hn (hk i e.symm))⟩
set_option maxRecDepth 100000 in
set_option maxHeartbeats 2000000 in
theorem text_p (hS : Scn w b s (pos s i) (pos s i) tk F) (hz : s.size ≤ 65536) (hl : i < s.size) :
    Calls Tryz.prog 53 #[.pointer (some ⟨b, 0, none⟩)] w (TokPost w b s i tk F (txtR s i)) := by
  have hSz := hS.lt
  have hR := RB.new w
  have hS0 := hS.alloc (.cells #[.int .i64 0, .string ⟨#[]⟩, .string ⟨#[]⟩, .int .i64 0, .bool false, .int .i64 0, .int .i64 0] 38)
  obtain ⟨u0, hu, hu0, hu1, hu2⟩ := info_parts infoU8
  go_enter Tryz.func53, Tryz.ntmps53
  go_wp2_with (first | (go_at_call 39; refine (skip1 hS0 hz hl).mono ?_; rintro e w4 ⟨rfl, hS4, hO4⟩))
  have hw4 := hO4.size
  have hw4' : w.heap.size + 1 ≤ w4.heap.size := by simpa using hw4
  clear hw4
  go_loopg [4] (s.size + 2 - i) (fun k v wr => ∃ (j : Nat) (l : List UInt8), Hid (txtF s i k j l = txtR s i) ∧ s.size + 3 ≤ j + k ∧ j ≤ s.size ∧ l.length ≤ 200 ∧ BR wr (w.heap.size + 1) v l ∧ Scn wr b s (pos s i) (pos s j) tk F ∧ Only (· = b) (w.alloc (.cells #[.int .i64 0, .string ⟨#[]⟩, .string ⟨#[]⟩, .int .i64 0, .bool false, .int .i64 0, .int .i64 0] 38)) wr)
  case atStart => exact ⟨i + 1, [], Lib.hid rfl, by omega, by omega, by simp, World.ownsRow_nil _ _ _ _, hS4, hO4⟩
  case round =>
    obtain ⟨j, l, HI, hjk, hji, hll, hBR, hS1, hO1⟩ := hrel
    obtain ⟨oa, ca, rfl⟩ := rowForm hBR
    obtain ⟨k', hk'⟩ : ∃ k', gk = k' + 1 := ⟨gk - 1, by omega⟩
    subst hk'
    obtain ⟨y, hy⟩ : ∃ y, byteAt s j = y := ⟨_, rfl⟩
    have HY := Lib.hid hy
    by_cases hq : y = 34
    · have hjl := byteAt_pos (s := s) (i := j) (by omega)
      have HP : Hid (txtR s i = .ok ⟨7, nil8, ⟨l.toArray⟩, 0⟩ (j + 1)) := Lib.hid (by have h := HI.out; unfold txtF at h; rw [hy, if_pos hq] at h; exact h.symm)
      have HQ : Hid (byteAt s j = 34) := Lib.hid (by rw [hy, hq])
      clear hy hq
      go_wp2_with (first | (go_at_call 37; refine (peek0 hS1 HQ.out hz hji).mono ?_; rintro e w2 ⟨rfl, hO2⟩; have hS2 := hS1.keep hO2) | (go_at_call 39; refine (skip1 hS2 hz hjl).mono ?_; rintro e w7 ⟨rfl, hS7, hO7⟩; have hBR7 := (hBR.only hO2 (fun _ hc => hc.elim)).only hO7 (by rintro i rfl; omega); have hcv := conv_bytes hBR7; have hO8 := (hO1.trans hO2.lift).trans hO7; have hR7 := hR.only hO8 (by omega); have d0 := hR7.c0; have d1 := hR7.c1; have d2 := hR7.c2; have d3 := hR7.c3; have d4 := hR7.c4; have d5 := hR7.c5; have d6 := hR7.c6; have z0 := hR7.fz 0; have z1 := hR7.fz 1; have z2 := hR7.fz 2; have z3 := hR7.fz 3; have z4 := hR7.fz 4; have z5 := hR7.fz 5; have z6 := hR7.fz 6))
      exact bodyPost_ret (v := .tuple #[tkC ⟨7, nil8, ⟨l.toArray⟩, 0⟩, .bool true]) (by simp [results, Tryz.results53, go_sem, nil8, d0, d1, d2, d3, d4, d5, d6]) rfl (by rw [HP.out]; exact tok_ok rfl rfl hSz hS7 hO8 (Only.set7 _ _ _ _ _ _ _ _ _))
    · have e34 : (y != 34) = true := by simp [hq]
      cases ho : litR s 34 i j with
      | bad f =>
        have HP : Hid (txtR s i = .bad f) := Lib.hid (by have h := HI.out; unfold txtF at h; rw [hy, if_neg hq, ho] at h; exact h.symm)
        have HO := Lib.hid ho
        clear hy hq ho
        go_wp2_with (first | (go_at_call 37; refine (peek0 hS1 HY.out hz hji).mono ?_; rintro e w2 ⟨rfl, hO2⟩; have hS2 := hS1.keep hO2) | (go_at_call 93; refine (literalChar_p hS2 34 hz hji).mono ?_; rw [HO.out]; rintro e w5 ⟨rfl, hS5, hO5⟩; have hO8 := (hO1.trans hO2.lift).trans hO5; have hR7 := hR.only hO8 (by omega); have d0 := hR7.c0; have d1 := hR7.c1; have d2 := hR7.c2; have d3 := hR7.c3; have d4 := hR7.c4; have d5 := hR7.c5; have d6 := hR7.c6; have z0 := hR7.fz 0; have z1 := hR7.fz 1; have z2 := hR7.fz 2; have z3 := hR7.fz 3; have z4 := hR7.fz 4; have z5 := hR7.fz 5; have z6 := hR7.fz 6))
        exact bodyPost_ret (v := .tuple #[tkZ, .bool false]) (by simp [results, Tryz.results53, go_sem, d0, d1, d2, d3, d4, d5, d6]) rfl (by rw [HP.out]; exact tok_bad rfl rfl hSz hS5 hO8 (Only.set7 _ _ _ _ _ _ _ _ _))
      | ok c f =>
        have hb := litR_ok ho
        obtain ⟨hb0, hb1, hc0, hc1⟩ := hb
        have hK : ∀ g, Value.ownBlock (.slice oa l.length ca) = some g → w.heap.size + 1 ≤ g := fun g hg => (World.ownsRow.lt hBR g hg).1
        have hnb : Value.ownBlock (.slice oa l.length ca) ≠ some b := fun e => by have := hK b e; omega
        have HO := Lib.hid ho
        by_cases hlong : 200 < l.length + 1
        · have HP : Hid (txtR s i = .bad (flt s 3 nil8 i)) := Lib.hid (by have h := HI.out; unfold txtF at h; rw [hy, if_neg hq, ho] at h; simp only [hlong, if_true] at h; exact h.symm)
          clear hy hq ho
          go_wp2_with (first | (go_at_call 37; refine (peek0 hS1 HY.out hz hji).mono ?_; rintro e w2 ⟨rfl, hO2⟩; have hS2 := hS1.keep hO2) | (go_at_call 93; refine (literalChar_p hS2 34 hz hji).mono ?_; rw [HO.out]; rintro e w5 ⟨rfl, hS5, hO5⟩; have hO8 := (hO1.trans hO2.lift).trans hO5; have hBR5 := (hBR.only hO2 (fun _ hc => hc.elim)).only hO5 (by rintro i rfl; omega); have hz5 := hO8.size; have hz5' : w.heap.size + 1 ≤ w5.heap.size := by simpa using hz5) | (at_builtin; (refine wpList_append_own_at _ rfl _ _ 31 rfl (w.heap.size + 1) 5 u0 (.int .u8 0) 1 1 Tryz.underlying31 hu hu0 hu1 hu2 rfl (by decide) (.slice oa l.length ca) _ _ rfl (World.ownsRow.alloc hBR5 _) ⟨w5.heap.size, 0, none⟩ 1 1 [.int .u8 c] rfl rfl (cell_one_new _ _ _) (one_u8 c) (by unfold maxLen; omega) (by omega) (by simp; omega) ?_); (intro v' w6 hown' hgrow hnn hob; clear hnn hob; obtain ⟨ob, cb, rfl⟩ := rowForm hown'; have hBR6 := BR.snoc hc0 hc1 hown'; clear hown'; have hS6 := (hS5.alloc (.cells #[.int .u8 c] 5)).grown hgrow hnb; have hO6 := (Only.of_below (K := fun i => w.heap.size + 1 ≤ i) ((Below.refl _ w5).alloc (Nat.le_refl _) (.cells #[.int .u8 c] 5))).trans (Only.grown (K := fun i => w.heap.size + 1 ≤ i) hgrow (fun g hg => hK g hg)))) | (go_at_call 89; refine (fail_p hS6 3 _).mono ?_; rintro e w7 ⟨rfl, hB7, hO7⟩; have hO9 := (hO8.then hO6 (fun i hi => .inr (by simpa using hi))).trans hO7; have hR7 := hR.only hO9 (by omega); have d0 := hR7.c0; have d1 := hR7.c1; have d2 := hR7.c2; have d3 := hR7.c3; have d4 := hR7.c4; have d5 := hR7.c5; have d6 := hR7.c6; have z0 := hR7.fz 0; have z1 := hR7.fz 1; have z2 := hR7.fz 2; have z3 := hR7.fz 3; have z4 := hR7.fz 4; have z5 := hR7.fz 5; have z6 := hR7.fz 6))
          exact bodyPost_ret (v := .tuple #[tkZ, .bool false]) (by simp [results, Tryz.results53, go_sem, d0, d1, d2, d3, d4, d5, d6]) rfl (by rw [HP.out]; exact tok_bad rfl rfl hSz hB7 hO9 (Only.set7 _ _ _ _ _ _ _ _ _))
        · have HP : Hid (txtF s i k' f (l ++ [c.toNat.toUInt8]) = txtR s i) := Lib.hid (by have h := HI.out; unfold txtF at h; rw [hy, if_neg hq, ho] at h; simp only [hlong, if_false] at h; exact h)
          have hll' : l.length + 1 ≤ 200 := by omega
          clear hy hq ho hlong
          go_wp2_with (first | (go_at_call 37; refine (peek0 hS1 HY.out hz hji).mono ?_; rintro e w2 ⟨rfl, hO2⟩; have hS2 := hS1.keep hO2) | (go_at_call 93; refine (literalChar_p hS2 34 hz hji).mono ?_; rw [HO.out]; rintro e w5 ⟨rfl, hS5, hO5⟩; have hO8 := (hO1.trans hO2.lift).trans hO5; have hBR5 := (hBR.only hO2 (fun _ hc => hc.elim)).only hO5 (by rintro i rfl; omega); have hz5 := hO8.size; have hz5' : w.heap.size + 1 ≤ w5.heap.size := by simpa using hz5) | (at_builtin; (refine wpList_append_own_at _ rfl _ _ 31 rfl (w.heap.size + 1) 5 u0 (.int .u8 0) 1 1 Tryz.underlying31 hu hu0 hu1 hu2 rfl (by decide) (.slice oa l.length ca) _ _ rfl (World.ownsRow.alloc hBR5 _) ⟨w5.heap.size, 0, none⟩ 1 1 [.int .u8 c] rfl rfl (cell_one_new _ _ _) (one_u8 c) (by unfold maxLen; omega) (by omega) (by simp; omega) ?_); (intro v' w6 hown' hgrow hnn hob; clear hnn hob; obtain ⟨ob, cb, rfl⟩ := rowForm hown'; have hBR6 := BR.snoc hc0 hc1 hown'; clear hown'; have hS6 := (hS5.alloc (.cells #[.int .u8 c] 5)).grown hgrow hnb; have hO6 := (Only.of_below (K := fun i => w.heap.size + 1 ≤ i) ((Below.refl _ w5).alloc (Nat.le_refl _) (.cells #[.int .u8 c] 5))).trans (Only.grown (K := fun i => w.heap.size + 1 ≤ i) hgrow (fun g hg => hK g hg)))))
          go_roundg k'
          case rel => exact ⟨f, l ++ [c.toNat.toUInt8], HP, by omega, hb1, by simp; omega, hBR6, hS6, hO8.then hO6 (fun i hi => .inr (by simpa using hi))⟩
          case measure => omega
end
end Go.Proofs.YtelichlplblboaaGreatDoor
