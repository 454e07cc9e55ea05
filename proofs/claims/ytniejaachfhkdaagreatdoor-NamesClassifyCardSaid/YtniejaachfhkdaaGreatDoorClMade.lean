/-
  WALKS. The laws NamesClassify and NamesMade.
-/
import Derived.Test.YtniejaachfhkdaaGreatDoorAwake
import Derived.Test.YtniejaachfhkdaaGreatDoorRef2
namespace Go.Proofs.YtniejaachfhkdaaGreatDoor
open Go.RowKit Go.Maps
theorem beq_self_bytes (s : ByteArray) : (s.toList == s.toList) = true := by simp
set_option maxRecDepth 100000 in
set_option maxHeartbeats 1000000 in
theorem NamesClassify_walk (s : ByteArray) (W w : World) (hq : Q W w) (hs : s.size ≤ maxLen) :
    Calls Tryz.prog 3 #[.string s] w fun e w' => e = .returned (.bool true) ∧ Q W w' := by
  unfold maxLen at hs
  by_cases hl : s.size ≤ 1000
  · have e1 : decide (1000 < (s.size : Int)) = false := by simp; omega
    have b1 : (cls s == cls s) = true := by simp
    go_enter Tryz.func3, Tryz.ntmps3
    go_wp2_with (first | (go_at_call 12; refine (Classify_q _ _ _ (by omega) hq).mono ?_; rintro e w1 ⟨rfl, hq1⟩) | (go_at_call 13; refine (rClassify_any _ _ _ (by omega) hq1).mono ?_; rintro e w2 ⟨rfl, hq2⟩) | (go_at_call 11; refine (awake_q _ _ hq2).mono ?_; rintro e w5 ⟨rfl, hq5⟩))
    go_ret
    exact ⟨rfl, hq5⟩
  · have h4 : (1000 : Int) < s.size := by omega
    clear hl
    go_enter Tryz.func3, Tryz.ntmps3
    go_wp2_with (first | (go_at_call 11; refine (awake_q _ _ hq).mono ?_; rintro e w5 ⟨rfl, hq5⟩))
    go_ret
    exact ⟨rfl, hq5⟩
theorem Base_v (s : ByteArray) (v : Value) (W w : World) (hs : s.size ≤ 1000000) (h : basR (basO s) = v) (hq : Q W w) :
    Calls Tryz.prog 14 #[.string s] w fun e w' => e = .returned v ∧ Q W w' := h ▸ Base_q s W w hs hq
theorem rBase_v (s : ByteArray) (v : Value) (W w : World) (hs : s.size ≤ 1000000) (h : basR (basO s) = v) (hq : Q W w) :
    Calls Tryz.prog 15 #[.string s] w fun e w' => e = .returned v ∧ Q W w' := h ▸ rBase_any s W w hs hq
theorem basR_shape (o : Option (ByteArray × Int)) : ∃ (b : ByteArray) (n : Int) (k : Bool), basR o = .tuple #[.string b, .int .i64 n, .bool k] := by
  cases o with
  | none => exact ⟨_, _, _, rfl⟩
  | some p => exact ⟨_, _, _, rfl⟩
set_option maxRecDepth 100000 in
set_option maxHeartbeats 1000000 in
theorem NamesMade_walk (b : ByteArray) (n : Int) (s : ByteArray) (W w : World) (hq : Q W w) (hb : b.size ≤ maxLen) (hn : (Lit.int .i64 n).wf = true) (hs : s.size ≤ maxLen) :
    Calls Tryz.prog 4 #[.string b, .int .i64 n, .string s] w fun e w' => e = .returned (.bool true) ∧ Q W w' := by
  unfold maxLen at hb hs
  have hn1 : -9223372036854775808 ≤ n ∧ n ≤ 9223372036854775807 := by simpa [Lit.wf, IntKind.min, IntKind.max, IntKind.signed, IntKind.bits] using hn
  obtain ⟨hn0, hn1⟩ := hn1
  clear hn
  by_cases hl : b.size ≤ 1000 ∧ s.size ≤ 1000
  · obtain ⟨h1, h2⟩ := hl
    have e1 : decide (1000 < (b.size : Int)) = false := by simp; omega
    have e2 : decide (1000 < (s.size : Int)) = false := by simp; omega
    obtain ⟨x, k, o, hB⟩ := basR_shape (basO s)
    have HB := Lib.hid hB
    clear hB
    have b1 := beq_self_bytes x
    have b2 := beq_self_bytes (mkB b n)
    have b3 : (k == k) = true := by simp
    cases o
    all_goals
      go_enter Tryz.func4, Tryz.ntmps4
      go_wp2_with (first | (go_at_call 14; refine (Base_v _ _ _ _ (by omega) HB.out hq).mono ?_; rintro e w1 ⟨rfl, hq1⟩) | (go_at_call 15; refine (rBase_v _ _ _ _ (by omega) HB.out hq1).mono ?_; rintro e w2 ⟨rfl, hq2⟩) | (go_at_call 16; refine (Made_q _ _ _ _ (by omega) hn1 hq2).mono ?_; rintro e w3 ⟨rfl, hq3⟩) | (go_at_call 17; refine (rMade_any _ _ _ _ (by omega) hn1 hq3).mono ?_; rintro e w4 ⟨rfl, hq4⟩) | (go_at_call 11; refine (awake_q _ _ hq4).mono ?_; rintro e w5 ⟨rfl, hq5⟩))
      go_ret
      exact ⟨rfl, hq5⟩
  · have h4 : (1000 : Int) < b.size ∨ ((b.size : Int) ≤ 1000 ∧ (1000 : Int) < s.size) := by omega
    clear hl
    rcases h4 with h4 | ⟨h4, h5⟩
    all_goals
      go_enter Tryz.func4, Tryz.ntmps4
      go_wp2_with (first | (go_at_call 11; refine (awake_q _ _ hq).mono ?_; rintro e w5 ⟨rfl, hq5⟩))
      go_ret
      exact ⟨rfl, hq5⟩
end Go.Proofs.YtniejaachfhkdaaGreatDoor
