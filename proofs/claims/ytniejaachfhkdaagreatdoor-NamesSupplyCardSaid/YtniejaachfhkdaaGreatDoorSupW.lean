/-
  WALKS. The supply's calls: valid, Take, Fresh, NewSupply.
-/
import Derived.Test.YtniejaachfhkdaaGreatDoorSup
import Derived.LaidEqlPtr
namespace Go.Proofs.YtniejaachfhkdaaGreatDoor
open Go.RowKit Go.Maps
theorem run_eql_nil_ptr {P : Program} (w : World) {tp te : TypeId} (a : Addr) (hp : P.underlying tp = some (.pointer te)) :
    (binOp .eql tp (.pointer none) (.pointer (some a))).run P w = .ok (.bool false) w := by
  have h : ∀ d : Nat, (Op.equalIn (d + 1) tp (.pointer none) (.pointer (some a))).run P w = .ok false w := fun d => by
    simp [Op.equalIn, run_underlying hp]
  simp only [binOp]
  simp [Op.equal, Op.maxDepth, h 9999]
theorem info46 : ∃ j, Tryz.prog.info? 67 = some j := by
  have h : (Tryz.prog.info? 67).isSome = true := by kernel_rfl
  exact Option.isSome_iff_exists.1 h
theorem eqSame (a : Addr) (w : World) : (binOp .eql 33 (.pointer (some a)) (.pointer (some a))).run Tryz.prog w = .ok (.bool true) w := by
  obtain ⟨j, hj⟩ := info46
  exact run_eql_ptr_same w a Tryz.underlying33 hj
theorem eqNil (a : Addr) (w : World) : (binOp .eql 33 (.pointer none) (.pointer (some a))).run Tryz.prog w = .ok (.bool false) w :=
  run_eql_nil_ptr w a Tryz.underlying33
set_option maxRecDepth 100000 in
set_option maxHeartbeats 400000 in
theorem valid_yes (a : Nat) (w : World) (hc : w.cell? ⟨a, 0, none⟩ = some (.pointer (some ⟨a, 0, none⟩))) :
    Calls Tryz.prog 47 #[.pointer (some ⟨a, 0, none⟩)] w fun e w' => e = .returned (.bool true) ∧ w = w' := by
  have he := eqSame ⟨a, 0, none⟩ w
  go_enter Tryz.func47, Tryz.ntmps47
  go_wp2
  go_ret
  exact ⟨rfl, rfl⟩
set_option maxRecDepth 100000 in
set_option maxHeartbeats 400000 in
theorem valid_nil (w : World) :
    Calls Tryz.prog 47 #[.pointer none] w fun e w' => e = .returned (.bool false) ∧ w = w' := by
  go_enter Tryz.func47, Tryz.ntmps47
  go_wp2
  go_ret
  exact ⟨rfl, rfl⟩
set_option maxRecDepth 100000 in
set_option maxHeartbeats 400000 in
theorem valid_raw (a : Nat) (w : World) (hc : w.cell? ⟨a, 0, none⟩ = some (.pointer none)) :
    Calls Tryz.prog 47 #[.pointer (some ⟨a, 0, none⟩)] w fun e w' => e = .returned (.bool false) ∧ w = w' := by
  have he := eqNil ⟨a, 0, none⟩ w
  go_enter Tryz.func47, Tryz.ntmps47
  go_wp2
  go_ret
  exact ⟨rfl, rfl⟩
set_option maxRecDepth 100000 in
set_option maxHeartbeats 400000 in
theorem Take_no (W w : World) (p : Pl) (U T N) (s : ByteArray) (hs : s.size ≤ 2000000) (hS : Sup W p U T N w) (hu : U.contains s.data.toList = true) :
    Calls Tryz.prog 35 #[.pointer (some ⟨p.a, 0, none⟩), .string s] w fun e w' => e = .returned (.bool false) ∧ w = w' := by
  have c0 := hS.cell0
  have c1 := hS.cell1
  have hl := hS.look hs
  rw [hu] at hl
  clear hu
  go_enter Tryz.func35, Tryz.ntmps35
  go_wp2_with (first | (go_at_call 47; refine (valid_yes _ _ (by assumption)).mono ?_; rintro e w1 ⟨rfl, rfl⟩))
  go_ret
  exact ⟨rfl, rfl⟩
set_option maxRecDepth 100000 in
set_option maxHeartbeats 400000 in
theorem Take_yes (W w : World) (p : Pl) (U T N) (s : ByteArray) (hs : s.size ≤ 2000000) (hS : Sup W p U T N w) (hN : N + 1 ≤ 1000000000) (hu : U.contains s.data.toList = false) :
    Calls Tryz.prog 35 #[.pointer (some ⟨p.a, 0, none⟩), .string s] w fun e w' => e = .returned (.bool true) ∧ Sup W p (s.data.toList :: U) T (N + 1) w' ∧ Only (· = p.u) w w' := by
  have c0 := hS.cell0
  have c1 := hS.cell1
  have hl := hS.look hs
  rw [hu] at hl
  clear hu
  obtain ⟨w', hrun, hS', hO⟩ := hS.mark hN hs
  go_enter Tryz.func35, Tryz.ntmps35
  go_wp2_with (first | (go_at_call 47; refine (valid_yes _ _ (by assumption)).mono ?_; rintro e w1 ⟨rfl, rfl⟩))
  go_ret
  exact ⟨rfl, hS', hO⟩
end Go.Proofs.YtniejaachfhkdaaGreatDoor
