/-
  WALKS. The scanner's small methods, in places of a source: ended, peek, skip, fail, failHere, failLiteral.
-/
import Derived.Test.YtakojceggpljoaaGreatDoorLSpec2
namespace Go.Proofs.YtakojceggpljoaaGreatDoor
open Go.RowKit
section
variable {w : World} {b : Nat} {s : ByteArray} {i0 i : Nat} {tk : Value} {F : Flt}
theorem ended_no (hS : Scn w b s (pos s i0) (pos s i) tk F) (h : i < s.size) :
    Calls Tryz.prog 38 #[.pointer (some ⟨b, 0, none⟩)] w fun e w' => e = .returned (.bool false) ∧ Only (fun _ => False) w w' :=
  (ended_q hS).mono fun _ _ ⟨he, hO⟩ => ⟨by rw [he, pos_at]; exact ret_bool (by simp; omega), hO⟩
theorem ended_yes (hS : Scn w b s (pos s i0) (pos s i) tk F) (h : i = s.size) :
    Calls Tryz.prog 38 #[.pointer (some ⟨b, 0, none⟩)] w fun e w' => e = .returned (.bool true) ∧ Only (fun _ => False) w w' :=
  (ended_q hS).mono fun _ _ ⟨he, hO⟩ => ⟨by rw [he, pos_at]; exact ret_bool (by simp; omega), hO⟩
theorem peek_v (hS : Scn w b s (pos s i0) (pos s i) tk F) (k : Nat) {c : Int} (hc : byteAt s (i + k) = c) (hk : k ≤ 10) (hz : s.size ≤ 65536) (hi : i ≤ s.size) :
    Calls Tryz.prog 37 #[.pointer (some ⟨b, 0, none⟩), .int .i64 k] w fun e w' => e = .returned (.int .u8 c) ∧ Only (fun _ => False) w w' :=
  (peek_q hS k hk (by omega) (by rw [pos_at]; omega)).mono fun _ _ ⟨he, hO⟩ => ⟨by rw [he, pos_at]; exact ret_int hc, hO⟩
theorem peek0 (hS : Scn w b s (pos s i0) (pos s i) tk F) {c : Int} (hc : byteAt s i = c) (hz : s.size ≤ 65536) (hi : i ≤ s.size) :
    Calls Tryz.prog 37 #[.pointer (some ⟨b, 0, none⟩), .int .i64 0] w fun e w' => e = .returned (.int .u8 c) ∧ Only (fun _ => False) w w' := peek_v hS 0 hc (by omega) hz hi
theorem peek1 (hS : Scn w b s (pos s i0) (pos s i) tk F) {c : Int} (hc : byteAt s (i + 1) = c) (hz : s.size ≤ 65536) (hi : i ≤ s.size) :
    Calls Tryz.prog 37 #[.pointer (some ⟨b, 0, none⟩), .int .i64 1] w fun e w' => e = .returned (.int .u8 c) ∧ Only (fun _ => False) w w' := peek_v hS 1 hc (by omega) hz hi
theorem skip_p (hS : Scn w b s (pos s i0) (pos s i) tk F) (n : Nat) (hz : s.size ≤ 65536) (hi : i + n ≤ s.size) :
    Calls Tryz.prog 39 #[.pointer (some ⟨b, 0, none⟩), .int .i64 n] w fun e w' => e = .returned (.tuple #[]) ∧ Scn w' b s (pos s i0) (pos s (i + n)) tk F ∧ Only (· = b) w w' := by
  obtain ⟨h1, h2, h3, h4⟩ := pos_bd s i
  exact (skip_q hS n (by omega) (by rw [pos_at]; omega) (by omega) h3 (by omega)).mono fun _ _ ⟨he, hs, hO⟩ => ⟨he, by rw [← advN_pos]; exact hs, hO⟩
theorem skip1 (hS : Scn w b s (pos s i0) (pos s i) tk F) (hz : s.size ≤ 65536) (hi : i < s.size) :
    Calls Tryz.prog 39 #[.pointer (some ⟨b, 0, none⟩), .int .i64 1] w fun e w' => e = .returned (.tuple #[]) ∧ Scn w' b s (pos s i0) (pos s (i + 1)) tk F ∧ Only (· = b) w w' := skip_p hS 1 hz hi
theorem skip2 (hS : Scn w b s (pos s i0) (pos s i) tk F) (hz : s.size ≤ 65536) (hi : i + 2 ≤ s.size) :
    Calls Tryz.prog 39 #[.pointer (some ⟨b, 0, none⟩), .int .i64 2] w fun e w' => e = .returned (.tuple #[]) ∧ Scn w' b s (pos s i0) (pos s (i + 2)) tk F ∧ Only (· = b) w w' := skip_p hS 2 hz hi
/-- The scanner has met a fault. -/
def Bad (b : Nat) (s : ByteArray) (i0 : Nat) (tk : Value) (f : Flt) (w' : World) : Prop := ∃ j, Scn w' b s (pos s i0) (pos s j) tk f
theorem fail_p (hS : Scn w b s (pos s i0) (pos s i) tk F) (code : Int) (nm : ByteArray) :
    Calls Tryz.prog 89 #[.pointer (some ⟨b, 0, none⟩), .int .i64 code, .string nm] w fun e w' => e = .returned (.bool false) ∧ Bad b s i0 tk (flt s code nm i0) w' ∧ Only (· = b) w w' :=
  (fail_q hS code nm).mono fun _ _ ⟨he, hs, hO⟩ => ⟨he, ⟨i, hs⟩, hO⟩
theorem failHere_p (hS : Scn w b s (pos s i0) (pos s i) tk F) :
    Calls Tryz.prog 46 #[.pointer (some ⟨b, 0, none⟩)] w fun e w' => e = .returned (.bool false) ∧ Bad b s i0 tk (flt s 5 nil8 i) w' ∧ Only (· = b) w w' :=
  (failHere_q hS).mono fun _ _ ⟨he, hs, hO⟩ => ⟨he, ⟨i, hs⟩, hO⟩
theorem Only.lift {K : Nat → Prop} {w w' : World} (h : Only (fun _ => False) w w') : Only K w w' := h.wide (fun _ hc => hc.elim)
theorem Scn.keep {w' : World} {B H : At} (h : Scn w b s B H tk F) (ho : Only (fun _ => False) w w') : Scn w' b s B H tk F := h.only ho (fun hc => hc)
set_option maxRecDepth 100000 in
set_option maxHeartbeats 1000000 in
theorem failLit_p (hS : Scn w b s (pos s i0) (pos s i) tk F) (hz : s.size ≤ 65536) (hi : i ≤ s.size) :
    Calls Tryz.prog 94 #[.pointer (some ⟨b, 0, none⟩)] w fun e w' => e = .returned (.bool false) ∧ Bad b s i0 tk (litF s i0 i) w' ∧ Only (· = b) w w' := by
  by_cases hl : i < s.size
  · cases hg : gd (byteAt s i)
    · have HF : Hid (litF s i0 i = flt s 5 nil8 i) := Lib.hid (by simp [litF, hl, hg])
      have HG := Lib.hid hg
      clear hg
      go_enter Tryz.func94, Tryz.ntmps94
      go_wp2_with (first | (go_at_call 38; refine (ended_no hS hl).mono ?_; rintro e w1 ⟨rfl, hO1⟩; have hS1 := hS.keep hO1) | (go_at_call 37; refine (peek0 hS1 rfl hz hi).mono ?_; rintro e w2 ⟨rfl, hO2⟩; have hS2 := hS1.keep hO2) | (go_at_call 88; refine (isSourceByte_any _ _).mono ?_; rw [HG.out]; rintro e w3 ⟨rfl, rfl⟩) | (go_at_call 46; refine (failHere_p hS2).mono ?_; rintro e w4 ⟨rfl, hB, hO4⟩))
      go_ret
      exact ⟨rfl, by rw [HF.out]; exact hB, (hO1.lift.trans hO2.lift).trans hO4⟩
    · have HF : Hid (litF s i0 i = flt s 7 nil8 i0) := Lib.hid (by simp [litF, hg])
      have HG := Lib.hid hg
      clear hg
      go_enter Tryz.func94, Tryz.ntmps94
      go_wp2_with (first | (go_at_call 38; refine (ended_no hS hl).mono ?_; rintro e w1 ⟨rfl, hO1⟩; have hS1 := hS.keep hO1) | (go_at_call 37; refine (peek0 hS1 rfl hz hi).mono ?_; rintro e w2 ⟨rfl, hO2⟩; have hS2 := hS1.keep hO2) | (go_at_call 88; refine (isSourceByte_any _ _).mono ?_; rw [HG.out]; rintro e w3 ⟨rfl, rfl⟩) | (go_at_call 89; refine (fail_p hS2 _ _).mono ?_; rintro e w4 ⟨rfl, hB, hO4⟩))
      go_ret
      exact ⟨rfl, by rw [HF.out]; exact hB, (hO1.lift.trans hO2.lift).trans hO4⟩
  · have HF : Hid (litF s i0 i = flt s 7 nil8 i0) := Lib.hid (by simp [litF, hl])
    have he : i = s.size := by omega
    clear hl
    go_enter Tryz.func94, Tryz.ntmps94
    have HE := Lib.hid he
    clear he
    go_wp2_with (first | (go_at_call 38; refine (ended_yes hS HE.out).mono ?_; rintro e w1 ⟨rfl, hO1⟩; have hS1 := hS.keep hO1) | (go_at_call 89; refine (fail_p hS1 _ _).mono ?_; rintro e w4 ⟨rfl, hB, hO4⟩))
    go_ret
    exact ⟨rfl, by rw [HF.out]; exact hB, hO1.lift.trans hO4⟩
end
end Go.Proofs.YtakojceggpljoaaGreatDoor
