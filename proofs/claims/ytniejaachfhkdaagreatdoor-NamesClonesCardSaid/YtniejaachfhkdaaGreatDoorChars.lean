/-
  WALKS. The byte predicates of package chars and of the reference.
-/
import Derived.Test.YtniejaachfhkdaaGreatDoorProg
import Derived.Test.YtniejaachfhkdaaGreatDoorNumsP
import Derived.Test.YtniejaachfhkdaaGreatDoorShelf
import Derived.WalkKit
import Derived.LoopN
import Derived.Lib.Hide
import Derived.WalkSpells
import Derived.WalkLawsBesides
namespace Go.Proofs.YtniejaachfhkdaaGreatDoor
open Go.RowKit
set_option maxHeartbeats 400000 in
theorem isUpper_any (n : Int) (w : World) :
    Calls Tryz.prog 74 #[.int .u8 n] w fun e w' => e = .returned (.bool (up n)) ∧ w = w' := by
  go_enter Tryz.func74, Tryz.ntmps74
  go_wp2
  all_goals (go_ret; exact ⟨ret_bool (by rw [Bool.eq_iff_iff]; simp [up]; try omega), rfl⟩)
set_option maxHeartbeats 400000 in
theorem isLower_any (n : Int) (w : World) :
    Calls Tryz.prog 132 #[.int .u8 n] w fun e w' => e = .returned (.bool (lw n)) ∧ w = w' := by
  go_enter Tryz.func132, Tryz.ntmps132
  go_wp2
  all_goals (go_ret; exact ⟨ret_bool (by rw [Bool.eq_iff_iff]; simp [lw]; try omega), rfl⟩)
set_option maxHeartbeats 400000 in
theorem isDigit_any (n : Int) (w : World) :
    Calls Tryz.prog 94 #[.int .u8 n] w fun e w' => e = .returned (.bool (dg n)) ∧ w = w' := by
  go_enter Tryz.func94, Tryz.ntmps94
  go_wp2
  all_goals (go_ret; exact ⟨ret_bool (by rw [Bool.eq_iff_iff]; simp [dg]; try omega), rfl⟩)
set_option maxHeartbeats 400000 in
theorem isStart_any (n : Int) (w : World) :
    Calls Tryz.prog 70 #[.int .u8 n] w fun e w' => e = .returned (.bool (stt n)) ∧ w = w' := by
  go_enter Tryz.func70, Tryz.ntmps70
  go_wp2_with (first | (go_at_call 74; refine (isUpper_any _ _).mono ?_; rintro e w' ⟨rfl, rfl⟩) | (go_at_call 132; refine (isLower_any _ _).mono ?_; rintro e w' ⟨rfl, rfl⟩))
  all_goals (go_ret; exact ⟨ret_bool (by simp [stt, *]), rfl⟩)
set_option maxHeartbeats 400000 in
theorem isWord_any (n : Int) (w : World) :
    Calls Tryz.prog 71 #[.int .u8 n] w fun e w' => e = .returned (.bool (wd n)) ∧ w = w' := by
  go_enter Tryz.func71, Tryz.ntmps71
  go_wp2_with (first | (go_at_call 70; refine (isStart_any _ _).mono ?_; rintro e w' ⟨rfl, rfl⟩) | (go_at_call 94; refine (isDigit_any _ _).mono ?_; rintro e w' ⟨rfl, rfl⟩))
  all_goals (go_ret; exact ⟨ret_bool (by rw [Bool.eq_iff_iff]; simp [wd, *]), rfl⟩)
set_option maxHeartbeats 400000 in
theorem isSymbol_any (n : Int) (w : World) :
    Calls Tryz.prog 69 #[.int .u8 n] w fun e w' => e = .returned (.bool (sy n)) ∧ w = w' := by
  go_enter Tryz.func69, Tryz.ntmps69
  go_wp2_with (first | (go_at_call 95; refine (Tryz.strings_IndexByte _ _ _).mono ?_; rintro e w' ⟨rfl, rfl⟩))
  all_goals (go_ret; exact ⟨ret_bool (by rfl), rfl⟩)
set_option maxHeartbeats 400000 in
theorem rupper_any (n : Int) (w : World) :
    Calls Tryz.prog 78 #[.int .u8 n] w fun e w' => e = .returned (.bool (up n)) ∧ w = w' := by
  go_enter Tryz.func78, Tryz.ntmps78
  go_wp2
  all_goals (go_ret; exact ⟨ret_bool (by rw [Bool.eq_iff_iff]; simp [up]; try omega), rfl⟩)
set_option maxHeartbeats 400000 in
theorem rlower_any (n : Int) (w : World) :
    Calls Tryz.prog 134 #[.int .u8 n] w fun e w' => e = .returned (.bool (lw n)) ∧ w = w' := by
  go_enter Tryz.func134, Tryz.ntmps134
  go_wp2
  all_goals (go_ret; exact ⟨ret_bool (by rw [Bool.eq_iff_iff]; simp [lw]; try omega), rfl⟩)
set_option maxHeartbeats 400000 in
theorem rdigit_any (n : Int) (w : World) :
    Calls Tryz.prog 85 #[.int .u8 n] w fun e w' => e = .returned (.bool (dg n)) ∧ w = w' := by
  go_enter Tryz.func85, Tryz.ntmps85
  go_wp2
  all_goals (go_ret; exact ⟨ret_bool (by rw [Bool.eq_iff_iff]; simp [dg]; try omega), rfl⟩)
set_option maxHeartbeats 400000 in
theorem rSymbolic_any (n : Int) (w : World) (h0 : 0 ≤ n) (h1 : n ≤ 255) :
    Calls Tryz.prog 135 #[.int .u8 n] w fun e w' => e = .returned (.bool (sy n)) ∧ w = w' := by
  go_enter Tryz.func135, Tryz.ntmps135
  go_wp2
  go_loop [4] (fun i => ∃ k : Nat, k ≤ 20 ∧ i = .int .i64 k ∧ NoSy n k) (fun i => 20 - (intOf i).toNat)
  case atStart => exact ⟨0, by omega, rfl, NoSy.zero n⟩
  case round =>
    obtain ⟨k, hk, rfl, hno⟩ := hrel
    by_cases hlt : k < 20
    · have hlt' : k < symsBA.size := hlt
      by_cases hm : ((symsBA[k].toNat : Int) == n) = true
      · go_wp2
        go_ret
        exact ⟨ret_bool (sy_hit h0 h1 hlt' hm).symm, rfl⟩
      · have hm' : ((symsBA[k].toNat : Int) == n) = false := by simpa using hm
        clear hm
        go_wp2
        go_round
        case rel => exact ⟨k + 1, by omega, by go_num, hno.next hlt' hm'⟩
        case measure => simp [intOf]; omega
    · go_wp2
      go_ret
      exact ⟨ret_bool (hno.done h0 h1 (by omega)).symm, rfl⟩
end Go.Proofs.YtniejaachfhkdaaGreatDoor
