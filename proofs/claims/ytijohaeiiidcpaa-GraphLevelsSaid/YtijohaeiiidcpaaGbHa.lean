/-
  WALKS. The search: newSearch.
-/
import Derived.Test.YtijohaeiiidcpaaGbH
namespace Go.Proofs.Ytijohaeiiidcpaa
open Go.RowKit Go.Maps
set_option maxRecDepth 100000 in
set_option maxHeartbeats 4000000 in
theorem newSearch_p (w : World) (oE : Option Addr) (n cE : Nat) (hn : n ≤ 1000000000) : Calls Try.prog 47 #[.slice oE n cE] w fun e w' => ∃ b r, e = .returned (.pointer (some ⟨b, 0, none⟩)) ∧ SM w' w.heap.size b (.slice oE n cE) r (s0S n) ∧ Only (fun _ => False) w w' := by
  have hmk := mk_ints hn
  go_enter Try.func47, Try.ntmps47
  go_wp2
  go_region
  go_wp2
  all_goals
    go_ret
    exact ⟨_, _, rfl, new_sm hn (by omega) (by omega) (by omega) (by omega) (by omega) (by omega) (by omega) (by omega) (by omega) (by omega), (((((Only.refl _ _).alloc _).alloc _).alloc _).alloc _).alloc _ |>.drew⟩
end Go.Proofs.Ytijohaeiiidcpaa
