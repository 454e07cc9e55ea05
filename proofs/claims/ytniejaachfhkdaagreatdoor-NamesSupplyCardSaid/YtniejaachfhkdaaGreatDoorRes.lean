/-
  WALKS. The reserved words and symbols: the program's and the reference's.
-/
import Derived.Test.YtniejaachfhkdaaGreatDoorWords
namespace Go.Proofs.YtniejaachfhkdaaGreatDoor
open Go.RowKit
set_option maxHeartbeats 1000000 in
theorem resW_any (s : ByteArray) (w : World) :
    Calls Tryz.prog 73 #[.string s] w fun e w' => e = .returned (.bool (resW s.data.toList)) ∧ w = w' := by
  have H := Lib.hid (Lib.toList_data s)
  go_enter Tryz.func73, Tryz.ntmps73
  go_wp2_with fail
  all_goals (go_ret; exact ⟨ret_bool (by rw [← H.out]; simp_all [resW, resWords]), rfl⟩)
set_option maxHeartbeats 1000000 in
theorem resS_any (s : ByteArray) (w : World) :
    Calls Tryz.prog 75 #[.string s] w fun e w' => e = .returned (.bool (resS s.data.toList)) ∧ w = w' := by
  have H := Lib.hid (Lib.toList_data s)
  go_enter Tryz.func75, Tryz.ntmps75
  go_wp2_with fail
  all_goals (go_ret; exact ⟨ret_bool (by rw [← H.out]; simp_all [resS, resSyms]), rfl⟩)
set_option maxHeartbeats 1000000 in
theorem rresW_any (s : ByteArray) (w : World) :
    Calls Tryz.prog 77 #[.string s] w fun e w' => e = .returned (.bool (resW s.data.toList)) ∧ w = w' := by
  have H := Lib.hid (Lib.toList_data s)
  go_enter Tryz.func77, Tryz.ntmps77
  go_wp2_with fail
  all_goals (go_ret; exact ⟨ret_bool (by rw [← H.out]; simp_all [resW, resWords]), rfl⟩)
set_option maxHeartbeats 1000000 in
theorem rresS_any (s : ByteArray) (w : World) :
    Calls Tryz.prog 80 #[.string s] w fun e w' => e = .returned (.bool (resS s.data.toList)) ∧ w = w' := by
  have H := Lib.hid (Lib.toList_data s)
  go_enter Tryz.func80, Tryz.ntmps80
  go_wp2_with fail
  all_goals (go_ret; exact ⟨ret_bool (by rw [← H.out]; simp_all [resS, resSyms]), rfl⟩)
end Go.Proofs.YtniejaachfhkdaaGreatDoor
