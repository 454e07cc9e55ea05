/-
  WALKS. A call on both supplies: lazyclaw01.step.
-/
import Derived.Test.YtniejaachfhkdaaGreatDoorRFresh
import Derived.Deep.RegionWith
namespace Go.Proofs.YtniejaachfhkdaaGreatDoor
open Go.RowKit Go.Maps
theorem beq_self' (s : ByteArray) : (s.toList == s.toList) = true := by simp
/-- step's copy of its call. -/
def opW (w : World) (q : Int) (x : ByteArray) : World := (w.alloc (Obj.cells #[.int .i64 q, .string x] 38)).drew
theorem opW_below (w : World) (q : Int) (x : ByteArray) : Below w.heap.size w (opW w q x) := ((Below.refl _ w).alloc (Nat.le_refl _) _).drew
theorem opW_cell (w : World) (q : Int) (x : ByteArray) : (opW w q x).cell? ⟨w.heap.size, 1, none⟩ = some (.string x) := by
  have := heap_new w (Obj.cells #[.int .i64 q, .string x] 38)
  have h2 : (opW w q x).heap[w.heap.size]? = some (Obj.cells #[.int .i64 q, .string x] 38) := this
  simp [World.cell?, h2]
set_option maxRecDepth 100000 in
set_option maxHeartbeats 1000000 in
theorem step_fresh (w : World) (a r : Nat) (x nm : ByteArray) (P1 P2 : World → Prop) (hc : ∀ w1, P1 w1 → w1.cell? ⟨w.heap.size, 1, none⟩ = some (.string x))
    (h1 : Calls Tryz.prog 34 #[.pointer (some ⟨a, 0, none⟩), .string x] (opW w 0 x) fun e w' => e = .returned (.string nm) ∧ P1 w')
    (h2 : ∀ w1, P1 w1 → Calls Tryz.prog 50 #[.pointer (some ⟨r, 0, none⟩), .string x] w1 fun e w' => e = .returned (.string nm) ∧ P2 w') :
    Calls Tryz.prog 22 #[.pointer (some ⟨a, 0, none⟩), .pointer (some ⟨r, 0, none⟩), .agg #[.int .i64 0, .string x]] w fun e w' => e = .returned (.bool true) ∧ P2 w' := by
  have hb := beq_self' nm
  go_enter Tryz.func22, Tryz.ntmps22
  go_wp2_with fail
  go_region_with (first | (go_at_call 34; refine Calls.mono h1 ?_; rintro e w5 ⟨rfl, hp⟩; have hc5 := hc _ hp) | (go_at_call 50; refine (h2 _ hp).mono ?_; rintro e w6 ⟨rfl, hp6⟩))
  all_goals
    go_wp2
    go_ret
    exact ⟨rfl, hp6⟩
set_option maxRecDepth 100000 in
set_option maxHeartbeats 1000000 in
theorem step_take (w : World) (a r : Nat) (q : Int) (hq : q ≠ 0) (x : ByteArray) (b : Bool) (P1 P2 : World → Prop) (hc : ∀ w1, P1 w1 → w1.cell? ⟨w.heap.size, 1, none⟩ = some (.string x))
    (h1 : Calls Tryz.prog 35 #[.pointer (some ⟨a, 0, none⟩), .string x] (opW w q x) fun e w' => e = .returned (.bool b) ∧ P1 w')
    (h2 : ∀ w1, P1 w1 → Calls Tryz.prog 51 #[.pointer (some ⟨r, 0, none⟩), .string x] w1 fun e w' => e = .returned (.bool b) ∧ P2 w') :
    Calls Tryz.prog 22 #[.pointer (some ⟨a, 0, none⟩), .pointer (some ⟨r, 0, none⟩), .agg #[.int .i64 q, .string x]] w fun e w' => e = .returned (.bool true) ∧ P2 w' := by
  have hq1 : (q == 0) = false := by simp [hq]
  clear hq
  go_enter Tryz.func22, Tryz.ntmps22
  go_wp2_with fail
  go_region_with (first | (go_at_call 35; refine Calls.mono h1 ?_; rintro e w5 ⟨rfl, hp⟩; have hc5 := hc _ hp) | (go_at_call 51; refine (h2 _ hp).mono ?_; rintro e w6 ⟨rfl, hp6⟩))
  all_goals
    go_wp2
    go_ret
    exact ⟨by cases b <;> rfl, hp6⟩
end Go.Proofs.YtniejaachfhkdaaGreatDoor
