/-
  WALKS. SameTokens of equal lists.
-/
import Derived.Test.YthblchafjmgmbaaLySa
namespace Go.Proofs.Ythblchafjmgmbaa
open Go.RowKit Go.Maps
set_option maxRecDepth 100000 in
set_option maxHeartbeats 4000000 in
theorem SameEq_p (w : World) (oa ob : Option Addr) (n ca cb : Nat) (ts : List Tok) (hn : n ≤ 100000000000) (ha : Tks w oa n ts) (hb : Tks w ob n ts) :
    Calls Try.prog 8 #[.slice oa n ca, .slice ob n cb] w fun r w' => r = .returned (.bool true) ∧ Only (fun _ => False) w w' := by
  have HL := Lib.hid ha.len
  go_enter Try.func8, Try.ntmps8
  go_wp2
  go_loopw [5] (fun i wr => ∃ k : Nat, k ≤ n ∧ i = .int .i64 k ∧ Only (fun _ => False) w wr) (fun i _ => n - (intOf i).toNat)
  case atStart => exact ⟨0, by omega, rfl, Only.refl _ _⟩
  case round =>
    obtain ⟨k, hk, rfl, hO⟩ := hrel
    by_cases hlt : k < n
    · have hkt : k < ts.length := by rw [HL.out]; exact hlt
      obtain ⟨b, o, rfl, hc⟩ := (ha.keep hO).cell k hkt
      obtain ⟨b', o', rfl, hc'⟩ := (hb.keep hO).cell k hkt
      obtain ⟨x, hx⟩ : ∃ x, ts[k] = x := ⟨_, rfl⟩
      rw [hx] at hc hc'
      clear hx hkt
      obtain ⟨p0, p1, p2, p3, p4, p5, p6⟩ := hc
      obtain ⟨q0, q1, q2, q3, q4, q5, q6⟩ := hc'
      have hkn : (k : Int) < (n : Int) := by omega
      have hk0 : (0 : Int) ≤ (k : Int) := Int.natCast_nonneg k
      go_wp2
      go_quiet (fail)
      all_goals
        go_wp2
        go_roundw
        case rel => exact ⟨k + 1, by omega, by go_num, hO.trans (only_drewN _ _)⟩
        case measure => simp [intOf]; omega
    · go_wp2
      go_ret
      exact ⟨rfl, hO⟩
end Go.Proofs.Ythblchafjmgmbaa
