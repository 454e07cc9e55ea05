/-
  WALKS. Quote, QuoteChar.
-/
import Derived.Test.YtakojceggpljoaaGreatDoorQuo
namespace Go.Proofs.YtakojceggpljoaaGreatDoor
open Go.RowKit Go.Maps
theorem quoted_34 (s : ByteArray) (w : World) (hs : s.size ≤ 1000000) :
    Calls Tryz.prog 35 #[.string s, .int .u8 34] w fun e w' => e = .returned (.string ⟨(qtL 34 s.data.toList).toArray⟩) ∧ Below w.heap.size w w' := quoted_p s 34 w hs
theorem quoted_39 (s : ByteArray) (w : World) (hs : s.size ≤ 1000000) :
    Calls Tryz.prog 35 #[.string s, .int .u8 39] w fun e w' => e = .returned (.string ⟨(qtL 39 s.data.toList).toArray⟩) ∧ Below w.heap.size w w' := quoted_p s 39 w hs
set_option maxHeartbeats 1000000 in
set_option maxRecDepth 100000 in
theorem Quote_p (s : ByteArray) (w : World) (hs : s.size ≤ 1000000) :
    Calls Tryz.prog 19 #[.string s] w fun e w' => e = .returned (.string ⟨(qtL 34 s.data.toList).toArray⟩) ∧ Below w.heap.size w w' := by
  go_enter Tryz.func19, Tryz.ntmps19
  go_wp2_with (first | (go_at_call 35; refine (quoted_34 _ _ hs).mono ?_; rintro e w1 ⟨rfl, hb⟩))
  go_ret
  exact ⟨rfl, hb⟩
/-- What QuoteChar answers. -/
def qcB (n : Int) : ByteArray := if 0 ≤ n ∧ n ≤ 255 then ⟨(qtL 39 [n.toNat.toUInt8]).toArray⟩ else ⟨#[]⟩
theorem row_one (w : World) (n : Int) (h0 : 0 ≤ n) (h1 : n ≤ 255) : BR (w.alloc (.cells #[.int .u8 n] 5)) 0 (.slice (some ⟨w.heap.size, 0, none⟩) 1 1) [n.toNat.toUInt8] := by
  have e : ((n.toNat.toUInt8.toNat : Nat) : Int) = n := by
    have : n.toNat.toUInt8.toNat = n.toNat % 256 := by simp [Nat.toUInt8]
    omega
  refine ⟨by simp, .inr ⟨w.heap.size, 1, #[.int .u8 n], rfl, Nat.zero_le _, new_block w _, by simp, by unfold maxLen; omega, rfl, ?_⟩⟩
  show [Value.int .u8 n] = [Value.int .u8 ((n.toNat.toUInt8.toNat : Nat) : Int)]
  rw [e]
set_option maxHeartbeats 1000000 in
set_option maxRecDepth 100000 in
theorem QuoteChar_p (n : Int) (w : World) :
    Calls Tryz.prog 20 #[.int .i64 n] w fun e w' => e = .returned (.string (qcB n)) ∧ Below w.heap.size w w' := by
  by_cases h : 0 ≤ n ∧ n ≤ 255
  · have HQ : Hid (qcB n = ⟨(qtL 39 [n.toNat.toUInt8]).toArray⟩) := Lib.hid (by unfold qcB; rw [if_pos h])
    obtain ⟨h0, h1⟩ := h
    have hcv := conv_bytes (row_one w n h0 h1)
    go_enter Tryz.func20, Tryz.ntmps20
    go_wp2_with (first | (go_at_call 35; refine (quoted_39 _ _ (by show 1 ≤ 1000000; omega)).mono ?_; rintro e w1 ⟨rfl, hb⟩))
    go_ret
    exact ⟨by rw [HQ.out]; rfl, ((Below.refl _ _).alloc (Nat.le_refl _) _).trans (hb.mono (by show w.heap.size ≤ (w.heap.push _).size; simp))⟩
  · have HQ : Hid (qcB n = ⟨#[]⟩) := Lib.hid (by unfold qcB; rw [if_neg h])
    have hc : n < 0 ∨ (0 ≤ n ∧ 255 < n) := by omega
    clear h
    rcases hc with h | ⟨h, h2⟩
    all_goals
      go_enter Tryz.func20, Tryz.ntmps20
      go_wp2
      go_ret
      exact ⟨by rw [HQ.out]; rfl, Below.refl _ _⟩
end Go.Proofs.YtakojceggpljoaaGreatDoor
