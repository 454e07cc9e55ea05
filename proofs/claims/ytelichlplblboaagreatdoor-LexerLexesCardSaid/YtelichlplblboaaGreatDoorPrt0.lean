/-
  WALKS. Which tokens are printable; their text.
-/
import Derived.Test.YtelichlplblboaaGreatDoorSame
import Derived.Test.YtelichlplblboaaGreatDoorLc
import Derived.Test.YtelichlplblboaaGreatDoorQu
namespace Go.Proofs.YtelichlplblboaaGreatDoor
open Go.RowKit Go.Maps
theorem empty_facts {s : ByteArray} (h : s.data.toList = []) : s.toList = [] ∧ s.toList.isEmpty = true ∧ (!s.toList.isEmpty) = false := by
  have e : s.toList = [] := by rw [Lib.toList_data]; exact h
  exact ⟨e, by rw [e]; rfl, by rw [e]; rfl⟩
theorem full_facts {s : ByteArray} (h : s.data.toList ≠ []) : (s.toList == []) = false ∧ s.toList.isEmpty = false ∧ (!s.toList.isEmpty) = true := by
  have e : s.toList ≠ [] := by rw [Lib.toList_data]; exact h
  refine ⟨by simpa using e, ?_, ?_⟩
  · cases h' : s.toList with
    | nil => exact absurd h' e
    | cons a b => rfl
  · cases h' : s.toList with
    | nil => exact absurd h' e
    | cons a b => rfl
/-- May a string stand before the point of a token? -/
def isq (s : ByteArray) : Bool := s.data.toList.isEmpty || (cls s == 2)
set_option maxRecDepth 100000 in
set_option maxHeartbeats 2000000 in
theorem isQualifier_q (s : ByteArray) (v : Bool) (W w : World) (hs : s.size ≤ 65536) (hv : isq s = v) (hq : Q W w) :
    Calls Tryz.prog 73 #[.string s] w fun e w' => e = .returned (.bool v) ∧ Q W w' ∧ Only (fun _ => False) w w' := by
  by_cases h0 : s.data.toList = []
  · have HV : Hid (v = true) := Lib.hid (by rw [← hv]; unfold isq; rw [h0]; rfl)
    obtain ⟨e1, e2, e3⟩ := empty_facts h0
    clear h0 hv
    go_enter Tryz.func73, Tryz.ntmps73
    go_wp2
    go_ret
    exact ⟨ret_bool HV.out.symm, hq, Only.refl _ _⟩
  · obtain ⟨e1, e2, e3⟩ := full_facts h0
    obtain ⟨c, hc⟩ : ∃ c, cls s = c := ⟨_, rfl⟩
    have HV : Hid (v = (c == 2)) := Lib.hid (by rw [← hv]; unfold isq; rw [hc, ← Lib.toList_data, e2]; rfl)
    have HC := Lib.hid hc
    clear h0 hv hc
    go_enter Tryz.func73, Tryz.ntmps73
    go_wp2_with (first | (go_at_call 101; refine (Classify_v _ _ _ _ hs HC.out hq).mono ?_; rintro e w1 ⟨rfl, hq1, hO1⟩))
    go_ret
    exact ⟨ret_bool HV.out.symm, hq1, hO1⟩
theorem opOf_v (t : ByteArray) (v : Int) (W w : World) (hs : t.size ≤ 65536) (hv : opo (cls t) = v) (hq : Q W w) :
    Calls Tryz.prog 72 #[.string t] w fun e w' => e = .returned (.int .i64 v) ∧ Q W w' ∧ Only (fun _ => False) w w' := hv ▸ opOf_q t W w hs hq
/-- May Lex return such a token? -/
def prT (t : Tok) : Bool :=
  if t.op = 5 then t.qual.data.toList.isEmpty && t.text.data.toList.isEmpty && decide (0 ≤ t.n)
  else if t.op = 6 then t.qual.data.toList.isEmpty && t.text.data.toList.isEmpty && decide (0 ≤ t.n) && decide (t.n ≤ 255)
  else if t.op = 7 then t.qual.data.toList.isEmpty && (t.n == 0) && decide (t.text.size ≤ 200)
  else if t.op = 8 then t.qual.data.toList.isEmpty && (t.n == 0) && (t.text.size == 1) && Lib.contains spB t.text.data.toList
  else if t.op = 9 ∨ t.op = 10 then t.qual.data.toList.isEmpty && (t.n == 0) && (opo (cls t.text) == t.op)
  else if t.op = 1 ∨ t.op = 2 ∨ t.op = 3 ∨ t.op = 4 then isq t.qual && (t.n == 0) && (opo (cls t.text) == t.op)
  else false
/-- The world in which a token's parameter lies in its block. -/
abbrev tokA (w : World) (t : Tok) : World := w.alloc (.cells #[.int .i64 t.op, .string t.qual, .string t.text, .int .i64 t.n, .bool t.auto, .int .i64 t.line, .int .i64 t.col] 38)
theorem TC.of_block {w : World} {b : Nat} {t : Tok} {T : TypeId} (h : w.heap[b]? = some (.cells #[.int .i64 t.op, .string t.qual, .string t.text, .int .i64 t.n, .bool t.auto, .int .i64 t.line, .int .i64 t.col] T (0, 0))) : TC w b 0 t := by
  constructor <;> simp [World.cell?, h]
theorem tokA_tc (w : World) (t : Tok) : TC (tokA w t) w.heap.size 0 t := TC.of_block (new_block w _)
theorem tokA_tc' {w w' : World} {t : Tok} (h : Only (fun _ => False) (tokA w t) w') : TC w' w.heap.size 0 t := (tokA_tc w t).only h (fun h => h)
theorem tokA_only (w : World) (t : Tok) : Only (fun _ => False) w (tokA w t) := Only.of_below ((Below.refl _ _).alloc (Nat.le_refl _) _)
end Go.Proofs.YtelichlplblboaaGreatDoor
