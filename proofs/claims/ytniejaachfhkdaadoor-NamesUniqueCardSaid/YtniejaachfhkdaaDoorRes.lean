/-
  WALKS. The reserved words and symbols: the program's and the reference's.
-/
import Derived.Test.YtniejaachfhkdaaDoorWords
namespace Go.Proofs.YtniejaachfhkdaaDoor
open Go.RowKit
set_option maxHeartbeats 1000000 in
theorem resW_any (s : ByteArray) (w : World) :
    Calls Tryd.prog 38 #[.string s] w fun e w' => e = .returned (.bool (resW s.data.toList)) ∧ w = w' := by
  have H := Lib.hid (Lib.toList_data s)
  go_enter Tryd.func38, Tryd.ntmps38
  go_wp2_with fail
  all_goals (go_ret; exact ⟨ret_bool (by rw [← H.out]; simp_all [resW, resWords]), rfl⟩)
set_option maxHeartbeats 1000000 in
theorem resS_any (s : ByteArray) (w : World) :
    Calls Tryd.prog 39 #[.string s] w fun e w' => e = .returned (.bool (resS s.data.toList)) ∧ w = w' := by
  have H := Lib.hid (Lib.toList_data s)
  go_enter Tryd.func39, Tryd.ntmps39
  go_wp2_with fail
  all_goals (go_ret; exact ⟨ret_bool (by rw [← H.out]; simp_all [resS, resSyms]), rfl⟩)
set_option maxHeartbeats 1000000 in
theorem rresW_any (s : ByteArray) (w : World) :
    Calls Tryd.prog 41 #[.string s] w fun e w' => e = .returned (.bool (resW s.data.toList)) ∧ w = w' := by
  have H := Lib.hid (Lib.toList_data s)
  go_enter Tryd.func41, Tryd.ntmps41
  go_wp2_with fail
  all_goals (go_ret; exact ⟨ret_bool (by rw [← H.out]; simp_all [resW, resWords]), rfl⟩)
set_option maxHeartbeats 1000000 in
theorem rresS_any (s : ByteArray) (w : World) :
    Calls Tryd.prog 44 #[.string s] w fun e w' => e = .returned (.bool (resS s.data.toList)) ∧ w = w' := by
  have H := Lib.hid (Lib.toList_data s)
  go_enter Tryd.func44, Tryd.ntmps44
  go_wp2_with fail
  all_goals (go_ret; exact ⟨ret_bool (by rw [← H.out]; simp_all [resS, resSyms]), rfl⟩)
end Go.Proofs.YtniejaachfhkdaaDoor
