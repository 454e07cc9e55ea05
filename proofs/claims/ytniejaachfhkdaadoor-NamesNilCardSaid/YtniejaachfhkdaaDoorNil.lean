/-
  WALKS. A supply that is nil, or was not made by the package; the law NamesNil.
-/
import Derived.Test.YtniejaachfhkdaaDoorAwake
namespace Go.Proofs.YtniejaachfhkdaaDoor
open Go.RowKit Go.Maps
set_option maxRecDepth 100000 in
set_option maxHeartbeats 400000 in
theorem Fresh_nil (s : ByteArray) (w : World) :
    Calls Tryd.prog 19 #[.pointer none, .string s] w fun e w' => e = .returned (.string ⟨#[]⟩) ∧ w = w' := by
  go_enter Tryd.func19, Tryd.ntmps19
  go_wp2_with (first | (go_at_call 33; refine (valid_nil _).mono ?_; rintro e w1 ⟨rfl, rfl⟩))
  go_ret
  exact ⟨rfl, rfl⟩
set_option maxRecDepth 100000 in
set_option maxHeartbeats 400000 in
theorem Fresh_raw (a : Nat) (s : ByteArray) (w : World) (hc : w.cell? ⟨a, 0, none⟩ = some (.pointer none)) :
    Calls Tryd.prog 19 #[.pointer (some ⟨a, 0, none⟩), .string s] w fun e w' => e = .returned (.string ⟨#[]⟩) ∧ w = w' := by
  go_enter Tryd.func19, Tryd.ntmps19
  go_wp2_with (first | (go_at_call 33; refine (valid_raw _ _ hc).mono ?_; rintro e w1 ⟨rfl, rfl⟩))
  go_ret
  exact ⟨rfl, rfl⟩
set_option maxRecDepth 100000 in
set_option maxHeartbeats 400000 in
theorem Take_nil (s : ByteArray) (w : World) :
    Calls Tryd.prog 17 #[.pointer none, .string s] w fun e w' => e = .returned (.bool false) ∧ w = w' := by
  go_enter Tryd.func17, Tryd.ntmps17
  go_wp2_with (first | (go_at_call 33; refine (valid_nil _).mono ?_; rintro e w1 ⟨rfl, rfl⟩))
  go_ret
  exact ⟨rfl, rfl⟩
set_option maxRecDepth 100000 in
set_option maxHeartbeats 400000 in
theorem Take_raw (a : Nat) (s : ByteArray) (w : World) (hc : w.cell? ⟨a, 0, none⟩ = some (.pointer none)) :
    Calls Tryd.prog 17 #[.pointer (some ⟨a, 0, none⟩), .string s] w fun e w' => e = .returned (.bool false) ∧ w = w' := by
  go_enter Tryd.func17, Tryd.ntmps17
  go_wp2_with (first | (go_at_call 33; refine (valid_raw _ _ hc).mono ?_; rintro e w1 ⟨rfl, rfl⟩))
  go_ret
  exact ⟨rfl, rfl⟩
set_option maxRecDepth 100000 in
set_option maxHeartbeats 400000 in
theorem Clone_nil (w : World) :
    Calls Tryd.prog 20 #[.pointer none] w fun e w' => e = .returned (.pointer none) ∧ w = w' := by
  go_enter Tryd.func20, Tryd.ntmps20
  go_wp2_with (first | (go_at_call 33; refine (valid_nil _).mono ?_; rintro e w1 ⟨rfl, rfl⟩))
  go_ret
  exact ⟨rfl, rfl⟩
set_option maxRecDepth 100000 in
set_option maxHeartbeats 400000 in
theorem Clone_raw (a : Nat) (w : World) (hc : w.cell? ⟨a, 0, none⟩ = some (.pointer none)) :
    Calls Tryd.prog 20 #[.pointer (some ⟨a, 0, none⟩)] w fun e w' => e = .returned (.pointer none) ∧ w = w' := by
  go_enter Tryd.func20, Tryd.ntmps20
  go_wp2_with (first | (go_at_call 33; refine (valid_raw _ _ hc).mono ?_; rintro e w1 ⟨rfl, rfl⟩))
  go_ret
  exact ⟨rfl, rfl⟩
def nilObj : Obj := .cells #[.pointer none, .map none, .map none] 46
theorem nil_cell (w : World) : (w.alloc nilObj).cell? ⟨w.heap.size, 0, none⟩ = some (.pointer none) := by
  have := heap_new w nilObj
  unfold World.cell?
  simp only [this]; rfl
set_option maxRecDepth 100000 in
set_option maxHeartbeats 1000000 in
theorem NamesNil_walk (s : ByteArray) (W w : World) (hq : Q W w) :
    Calls Tryd.prog 6 #[.string s] w fun e w' => e = .returned (.bool true) ∧ Q W w' := by
  have hc := nil_cell w
  have hqn : Q W (w.alloc nilObj) := hq.below ((Below.refl _ _).alloc (Nat.le_refl _) _)
  go_enter Tryd.func6, Tryd.ntmps6
  go_wp2_with (first | (go_at_call 19; first | ((with_reducible refine (Fresh_nil _ _).mono ?_); rintro e w1 ⟨rfl, rfl⟩) | (refine (Fresh_raw _ _ _ hc).mono ?_; rintro e w1 ⟨rfl, rfl⟩)) | (go_at_call 17; first | ((with_reducible refine (Take_nil _ _).mono ?_); rintro e w1 ⟨rfl, rfl⟩) | (refine (Take_raw _ _ _ hc).mono ?_; rintro e w1 ⟨rfl, rfl⟩)) | (go_at_call 20; first | ((with_reducible refine (Clone_nil _).mono ?_); rintro e w1 ⟨rfl, rfl⟩) | (refine (Clone_raw _ _ hc).mono ?_; rintro e w1 ⟨rfl, rfl⟩)) | (go_at_call 7; refine (awake_q _ _ hqn).mono ?_; rintro e w2 ⟨rfl, hq2⟩))
  go_ret
  exact ⟨rfl, hq2⟩
end Go.Proofs.YtniejaachfhkdaaDoor
