/-
  WALKS. The law NamesQualify.
-/
import Derived.Test.YtniejaachfhkdaaDoorAwake
namespace Go.Proofs.YtniejaachfhkdaaDoor
open Go.RowKit Go.Maps
theorem beq_self_bytes (s : ByteArray) : (s.toList == s.toList) = true := by simp
set_option maxRecDepth 100000 in
set_option maxHeartbeats 1000000 in
theorem NamesQualify_walk (m n s : ByteArray) (W w : World) (hq : Q W w) (hm : m.size ≤ maxLen) (hn : n.size ≤ maxLen) (hs : s.size ≤ maxLen) :
    Calls Tryd.prog 3 #[.string m, .string n, .string s] w fun e w' => e = .returned (.bool true) ∧ Q W w' := by
  unfold maxLen at hm hn hs
  by_cases hl : m.size ≤ 1000 ∧ n.size ≤ 1000 ∧ s.size ≤ 1000
  · obtain ⟨h1, h2, h3⟩ := hl
    have b1 := beq_self_bytes (spM s)
    have b2 := beq_self_bytes (spN s)
    have b3 := beq_self_bytes (joinB m n)
    have e1 : decide (1000 < (m.size : Int)) = false := by simp; omega
    have e2 : decide (1000 < (n.size : Int)) = false := by simp; omega
    have e3 : decide (1000 < (s.size : Int)) = false := by simp; omega
    go_enter Tryd.func3, Tryd.ntmps3
    go_wp2_with (first | (go_at_call 8; refine (split_q _ _ _ (by omega) hq).mono ?_; rintro e w1 ⟨rfl, hq1⟩) | (go_at_call 9; refine (rSplit_any _ _ (by omega)).mono ?_; rintro e w2 ⟨rfl, hb2⟩; have hq2 := hq1.below hb2) | (go_at_call 10; refine (join_q _ _ _ _ (by omega) (by omega) hq2).mono ?_; rintro e w3 ⟨rfl, hq3⟩) | (go_at_call 11; refine (rJoin_any _ _ _ (by omega) (by omega)).mono ?_; rintro e w4 ⟨rfl, rfl⟩) | (go_at_call 7; refine (awake_q _ _ hq3).mono ?_; rintro e w5 ⟨rfl, hq5⟩))
    go_ret
    exact ⟨rfl, hq5⟩
  · have h4 : (1000 : Int) < m.size ∨ ((m.size : Int) ≤ 1000 ∧ (1000 : Int) < n.size) ∨ ((m.size : Int) ≤ 1000 ∧ (n.size : Int) ≤ 1000 ∧ (1000 : Int) < s.size) := by omega
    clear hl
    rcases h4 with h4 | ⟨h4, h5⟩ | ⟨h4, h5, h6⟩
    · go_enter Tryd.func3, Tryd.ntmps3
      go_wp2_with (first | (go_at_call 7; refine (awake_q _ _ hq).mono ?_; rintro e w5 ⟨rfl, hq5⟩))
      go_ret
      exact ⟨rfl, hq5⟩
    · go_enter Tryd.func3, Tryd.ntmps3
      go_wp2_with (first | (go_at_call 7; refine (awake_q _ _ hq).mono ?_; rintro e w5 ⟨rfl, hq5⟩))
      go_ret
      exact ⟨rfl, hq5⟩
    · go_enter Tryd.func3, Tryd.ntmps3
      go_wp2_with (first | (go_at_call 7; refine (awake_q _ _ hq).mono ?_; rintro e w5 ⟨rfl, hq5⟩))
      go_ret
      exact ⟨rfl, hq5⟩
end Go.Proofs.YtniejaachfhkdaaDoor
