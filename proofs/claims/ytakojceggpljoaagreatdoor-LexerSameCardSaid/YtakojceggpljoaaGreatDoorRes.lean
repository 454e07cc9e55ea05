/-
  WALKS. The reserved words and symbols: the program's and the reference's.
-/
import Derived.Test.YtakojceggpljoaaGreatDoorWords
namespace Go.Proofs.YtakojceggpljoaaGreatDoor
open Go.RowKit
set_option maxHeartbeats 1000000 in
theorem resW_any (s : ByteArray) (w : World) :
    Calls Tryz.prog 146 #[.string s] w fun e w' => e = .returned (.bool (resW s.data.toList)) ∧ w = w' := by
  have H := Lib.hid (Lib.toList_data s)
  go_enter Tryz.func146, Tryz.ntmps146
  go_wp2_with fail
  all_goals (go_ret; exact ⟨ret_bool (by rw [← H.out]; simp_all [resW, resWords]), rfl⟩)
set_option maxHeartbeats 1000000 in
theorem resS_any (s : ByteArray) (w : World) :
    Calls Tryz.prog 147 #[.string s] w fun e w' => e = .returned (.bool (resS s.data.toList)) ∧ w = w' := by
  have H := Lib.hid (Lib.toList_data s)
  go_enter Tryz.func147, Tryz.ntmps147
  go_wp2_with fail
  all_goals (go_ret; exact ⟨ret_bool (by rw [← H.out]; simp_all [resS, resSyms]), rfl⟩)
set_option maxHeartbeats 1000000 in
theorem rresW_any (s : ByteArray) (w : World) :
    Calls Tryz.prog 132 #[.string s] w fun e w' => e = .returned (.bool (resW s.data.toList)) ∧ w = w' := by
  have H := Lib.hid (Lib.toList_data s)
  go_enter Tryz.func132, Tryz.ntmps132
  go_wp2_with fail
  all_goals (go_ret; exact ⟨ret_bool (by rw [← H.out]; simp_all [resW, resWords]), rfl⟩)
set_option maxHeartbeats 1000000 in
theorem rresS_any (s : ByteArray) (w : World) :
    Calls Tryz.prog 135 #[.string s] w fun e w' => e = .returned (.bool (resS s.data.toList)) ∧ w = w' := by
  have H := Lib.hid (Lib.toList_data s)
  go_enter Tryz.func135, Tryz.ntmps135
  go_wp2_with fail
  all_goals (go_ret; exact ⟨ret_bool (by rw [← H.out]; simp_all [resS, resSyms]), rfl⟩)
end Go.Proofs.YtakojceggpljoaaGreatDoor
