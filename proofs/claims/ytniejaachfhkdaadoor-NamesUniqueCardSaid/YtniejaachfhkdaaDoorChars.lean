/-
  WALKS. The byte predicates of package chars and of the reference.
-/
import Derived.Test.YtniejaachfhkdaaDoorProg
import Derived.Test.YtniejaachfhkdaaDoorNumsP
import Derived.Test.YtniejaachfhkdaaDoorShelf
import Derived.WalkKit
import Derived.LoopN
import Derived.Lib.Hide
import Derived.WalkSpells
import Derived.WalkLawsBesides
namespace Go.Proofs.YtniejaachfhkdaaDoor
open Go.RowKit
set_option maxHeartbeats 400000 in
theorem isUpper_any (n : Int) (w : World) :
    Calls Tryd.prog 37 #[.int .u8 n] w fun e w' => e = .returned (.bool (up n)) ∧ w = w' := by
  go_enter Tryd.func37, Tryd.ntmps37
  go_wp2
  all_goals (go_ret; exact ⟨ret_bool (by rw [Bool.eq_iff_iff]; simp [up]; try omega), rfl⟩)
set_option maxHeartbeats 400000 in
theorem isLower_any (n : Int) (w : World) :
    Calls Tryd.prog 58 #[.int .u8 n] w fun e w' => e = .returned (.bool (lw n)) ∧ w = w' := by
  go_enter Tryd.func58, Tryd.ntmps58
  go_wp2
  all_goals (go_ret; exact ⟨ret_bool (by rw [Bool.eq_iff_iff]; simp [lw]; try omega), rfl⟩)
set_option maxHeartbeats 400000 in
theorem isDigit_any (n : Int) (w : World) :
    Calls Tryd.prog 59 #[.int .u8 n] w fun e w' => e = .returned (.bool (dg n)) ∧ w = w' := by
  go_enter Tryd.func59, Tryd.ntmps59
  go_wp2
  all_goals (go_ret; exact ⟨ret_bool (by rw [Bool.eq_iff_iff]; simp [dg]; try omega), rfl⟩)
set_option maxHeartbeats 400000 in
theorem isStart_any (n : Int) (w : World) :
    Calls Tryd.prog 46 #[.int .u8 n] w fun e w' => e = .returned (.bool (stt n)) ∧ w = w' := by
  go_enter Tryd.func46, Tryd.ntmps46
  go_wp2_with (first | (go_at_call 37; refine (isUpper_any _ _).mono ?_; rintro e w' ⟨rfl, rfl⟩) | (go_at_call 58; refine (isLower_any _ _).mono ?_; rintro e w' ⟨rfl, rfl⟩))
  all_goals (go_ret; exact ⟨ret_bool (by simp [stt, *]), rfl⟩)
set_option maxHeartbeats 400000 in
theorem isWord_any (n : Int) (w : World) :
    Calls Tryd.prog 47 #[.int .u8 n] w fun e w' => e = .returned (.bool (wd n)) ∧ w = w' := by
  go_enter Tryd.func47, Tryd.ntmps47
  go_wp2_with (first | (go_at_call 46; refine (isStart_any _ _).mono ?_; rintro e w' ⟨rfl, rfl⟩) | (go_at_call 59; refine (isDigit_any _ _).mono ?_; rintro e w' ⟨rfl, rfl⟩))
  all_goals (go_ret; exact ⟨ret_bool (by rw [Bool.eq_iff_iff]; simp [wd, *]), rfl⟩)
set_option maxHeartbeats 400000 in
theorem isSymbol_any (n : Int) (w : World) :
    Calls Tryd.prog 45 #[.int .u8 n] w fun e w' => e = .returned (.bool (sy n)) ∧ w = w' := by
  go_enter Tryd.func45, Tryd.ntmps45
  go_wp2_with (first | (go_at_call 57; refine (Tryd.strings_IndexByte _ _ _).mono ?_; rintro e w' ⟨rfl, rfl⟩))
  all_goals (go_ret; exact ⟨ret_bool (by rfl), rfl⟩)
set_option maxHeartbeats 400000 in
theorem rupper_any (n : Int) (w : World) :
    Calls Tryd.prog 42 #[.int .u8 n] w fun e w' => e = .returned (.bool (up n)) ∧ w = w' := by
  go_enter Tryd.func42, Tryd.ntmps42
  go_wp2
  all_goals (go_ret; exact ⟨ret_bool (by rw [Bool.eq_iff_iff]; simp [up]; try omega), rfl⟩)
set_option maxHeartbeats 400000 in
theorem rlower_any (n : Int) (w : World) :
    Calls Tryd.prog 54 #[.int .u8 n] w fun e w' => e = .returned (.bool (lw n)) ∧ w = w' := by
  go_enter Tryd.func54, Tryd.ntmps54
  go_wp2
  all_goals (go_ret; exact ⟨ret_bool (by rw [Bool.eq_iff_iff]; simp [lw]; try omega), rfl⟩)
set_option maxHeartbeats 400000 in
theorem rdigit_any (n : Int) (w : World) :
    Calls Tryd.prog 55 #[.int .u8 n] w fun e w' => e = .returned (.bool (dg n)) ∧ w = w' := by
  go_enter Tryd.func55, Tryd.ntmps55
  go_wp2
  all_goals (go_ret; exact ⟨ret_bool (by rw [Bool.eq_iff_iff]; simp [dg]; try omega), rfl⟩)
set_option maxHeartbeats 400000 in
theorem rSymbolic_any (n : Int) (w : World) (h0 : 0 ≤ n) (h1 : n ≤ 255) :
    Calls Tryd.prog 56 #[.int .u8 n] w fun e w' => e = .returned (.bool (sy n)) ∧ w = w' := by
  go_enter Tryd.func56, Tryd.ntmps56
  go_wp2
  go_loop [4] (fun i => ∃ k : Nat, k ≤ 20 ∧ i = .int .i64 k ∧ NoSy n k) (fun i => 20 - (intOf i).toNat)
  case atStart => exact ⟨0, by omega, rfl, NoSy.zero n⟩
  case round =>
    obtain ⟨k, hk, rfl, hno⟩ := hrel
    by_cases hlt : k < 20
    · have hlt' : k < symsBA.size := hlt
      by_cases hm : ((symsBA[k].toNat : Int) == n) = true
      · go_wp2
        go_ret
        exact ⟨ret_bool (sy_hit h0 h1 hlt' hm).symm, rfl⟩
      · have hm' : ((symsBA[k].toNat : Int) == n) = false := by simpa using hm
        clear hm
        go_wp2
        go_round
        case rel => exact ⟨k + 1, by omega, by go_num, hno.next hlt' hm'⟩
        case measure => simp [intOf]; omega
    · go_wp2
      go_ret
      exact ⟨ret_bool (hno.done h0 h1 (by omega)).symm, rfl⟩
end Go.Proofs.YtniejaachfhkdaaDoor
