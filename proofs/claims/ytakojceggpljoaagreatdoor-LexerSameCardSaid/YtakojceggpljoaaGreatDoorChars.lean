/-
  WALKS. The byte predicates of package chars and of the reference.
-/
import Derived.Test.YtakojceggpljoaaGreatDoorProg
import Derived.Test.YtakojceggpljoaaGreatDoorNumsP
import Derived.Test.YtakojceggpljoaaGreatDoorShelf
import Derived.WalkKit
import Derived.LoopN
import Derived.Lib.Hide
import Derived.WalkSpells
import Derived.WalkLawsBesides
namespace Go.Proofs.YtakojceggpljoaaGreatDoor
open Go.RowKit
set_option maxHeartbeats 400000 in
theorem isUpper_any (n : Int) (w : World) :
    Calls Tryz.prog 86 #[.int .u8 n] w fun e w' => e = .returned (.bool (up n)) ∧ w = w' := by
  go_enter Tryz.func86, Tryz.ntmps86
  go_wp2
  all_goals (go_ret; exact ⟨ret_bool (by rw [Bool.eq_iff_iff]; simp [up]; try omega), rfl⟩)
set_option maxHeartbeats 400000 in
theorem isLower_any (n : Int) (w : World) :
    Calls Tryz.prog 85 #[.int .u8 n] w fun e w' => e = .returned (.bool (lw n)) ∧ w = w' := by
  go_enter Tryz.func85, Tryz.ntmps85
  go_wp2
  all_goals (go_ret; exact ⟨ret_bool (by rw [Bool.eq_iff_iff]; simp [lw]; try omega), rfl⟩)
set_option maxHeartbeats 400000 in
theorem isDigit_any (n : Int) (w : World) :
    Calls Tryz.prog 44 #[.int .u8 n] w fun e w' => e = .returned (.bool (dg n)) ∧ w = w' := by
  go_enter Tryz.func44, Tryz.ntmps44
  go_wp2
  all_goals (go_ret; exact ⟨ret_bool (by rw [Bool.eq_iff_iff]; simp [dg]; try omega), rfl⟩)
set_option maxHeartbeats 400000 in
theorem isStart_any (n : Int) (w : World) :
    Calls Tryz.prog 43 #[.int .u8 n] w fun e w' => e = .returned (.bool (stt n)) ∧ w = w' := by
  go_enter Tryz.func43, Tryz.ntmps43
  go_wp2_with (first | (go_at_call 86; refine (isUpper_any _ _).mono ?_; rintro e w' ⟨rfl, rfl⟩) | (go_at_call 85; refine (isLower_any _ _).mono ?_; rintro e w' ⟨rfl, rfl⟩))
  all_goals (go_ret; exact ⟨ret_bool (by simp [stt, *]), rfl⟩)
set_option maxHeartbeats 400000 in
theorem isWord_any (n : Int) (w : World) :
    Calls Tryz.prog 90 #[.int .u8 n] w fun e w' => e = .returned (.bool (wd n)) ∧ w = w' := by
  go_enter Tryz.func90, Tryz.ntmps90
  go_wp2_with (first | (go_at_call 43; refine (isStart_any _ _).mono ?_; rintro e w' ⟨rfl, rfl⟩) | (go_at_call 44; refine (isDigit_any _ _).mono ?_; rintro e w' ⟨rfl, rfl⟩))
  all_goals (go_ret; exact ⟨ret_bool (by rw [Bool.eq_iff_iff]; simp [wd, *]), rfl⟩)
set_option maxHeartbeats 400000 in
theorem isSymbol_any (n : Int) (w : World) :
    Calls Tryz.prog 42 #[.int .u8 n] w fun e w' => e = .returned (.bool (sy n)) ∧ w = w' := by
  go_enter Tryz.func42, Tryz.ntmps42
  go_wp2_with (first | (go_at_call 45; refine (Tryz.strings_IndexByte _ _ _).mono ?_; rintro e w' ⟨rfl, rfl⟩))
  all_goals (go_ret; exact ⟨ret_bool (by rfl), rfl⟩)
set_option maxHeartbeats 400000 in
theorem rupper_any (n : Int) (w : World) :
    Calls Tryz.prog 133 #[.int .u8 n] w fun e w' => e = .returned (.bool (up n)) ∧ w = w' := by
  go_enter Tryz.func133, Tryz.ntmps133
  go_wp2
  all_goals (go_ret; exact ⟨ret_bool (by rw [Bool.eq_iff_iff]; simp [up]; try omega), rfl⟩)
set_option maxHeartbeats 400000 in
theorem rlower_any (n : Int) (w : World) :
    Calls Tryz.prog 153 #[.int .u8 n] w fun e w' => e = .returned (.bool (lw n)) ∧ w = w' := by
  go_enter Tryz.func153, Tryz.ntmps153
  go_wp2
  all_goals (go_ret; exact ⟨ret_bool (by rw [Bool.eq_iff_iff]; simp [lw]; try omega), rfl⟩)
set_option maxHeartbeats 400000 in
theorem rdigit_any (n : Int) (w : World) :
    Calls Tryz.prog 154 #[.int .u8 n] w fun e w' => e = .returned (.bool (dg n)) ∧ w = w' := by
  go_enter Tryz.func154, Tryz.ntmps154
  go_wp2
  all_goals (go_ret; exact ⟨ret_bool (by rw [Bool.eq_iff_iff]; simp [dg]; try omega), rfl⟩)
set_option maxHeartbeats 400000 in
theorem rSymbolic_any (n : Int) (w : World) (h0 : 0 ≤ n) (h1 : n ≤ 255) :
    Calls Tryz.prog 155 #[.int .u8 n] w fun e w' => e = .returned (.bool (sy n)) ∧ w = w' := by
  go_enter Tryz.func155, Tryz.ntmps155
  go_wp2
  go_loop [4] (fun i => ∃ k : Nat, k ≤ 20 ∧ i = .int .i64 k ∧ NoSy n k) (fun i => 20 - (intOf i).toNat)
  case atStart => exact ⟨0, by omega, rfl, NoSy.zero n⟩
  case round =>
    obtain ⟨k, hk, rfl, hno⟩ := hrel
    by_cases hlt : k < 20
    · have hlt' : k < symsBA.size := hlt
      by_cases hm : ((symsBA[k].toNat : Int) == n) = true
      · go_wp2
        go_ret
        exact ⟨ret_bool (sy_hit h0 h1 hlt' hm).symm, rfl⟩
      · have hm' : ((symsBA[k].toNat : Int) == n) = false := by simpa using hm
        clear hm
        go_wp2
        go_round
        case rel => exact ⟨k + 1, by omega, by go_num, hno.next hlt' hm'⟩
        case measure => simp [intOf]; omega
    · go_wp2
      go_ret
      exact ⟨ret_bool (hno.done h0 h1 (by omega)).symm, rfl⟩
end Go.Proofs.YtakojceggpljoaaGreatDoor
