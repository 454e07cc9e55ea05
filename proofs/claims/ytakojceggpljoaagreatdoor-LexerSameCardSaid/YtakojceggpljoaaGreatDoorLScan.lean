/-
  The lexer's scanner in memory: its cells; ended, peek.
-/
import Derived.Test.YtakojceggpljoaaGreatDoorChars
import Derived.Test.YtakojceggpljoaaGreatDoorOnly
import Derived.RegionTactic
import Derived.ChangeAlike
namespace Go.Proofs.YtakojceggpljoaaGreatDoor
open Go.RowKit
/-- A place of a source: byte, line, column. -/
structure At where
  at' : Nat
  line : Nat
  col : Nat
/-- A fault: code, name, line, column. -/
structure Flt where
  code : Int
  name : ByteArray
  line : Nat
  col : Nat
/-- The scanner at b. -/
def Scn (w : World) (b : Nat) (src : ByteArray) (B H : At) (tk : Value) (F : Flt) : Prop :=
  w.heap[b]? = some (.cells #[.string src, .int .i64 B.at', .int .i64 B.line, .int .i64 B.col, .int .i64 H.at', .int .i64 H.line, .int .i64 H.col, tk, .int .i64 F.code, .string F.name, .int .i64 F.line, .int .i64 F.col] 47 (0, 0))
section
variable {w w' : World} {b : Nat} {src : ByteArray} {B H : At} {tk : Value} {F : Flt}
theorem Scn.lt (h : Scn w b src B H tk F) : b < w.heap.size := lt_of_block h
theorem Scn.only {K : Nat → Prop} (h : Scn w b src B H tk F) (ho : Only K w w') (hb : ¬ K b) : Scn w' b src B H tk F := (ho.block b h.lt hb).trans h
theorem Scn.below (h : Scn w b src B H tk F) (ho : Below w.heap.size w w') : Scn w' b src B H tk F := (ho.block b h.lt).trans h
theorem Scn.src' (h : Scn w b src B H tk F) : w.cell? ⟨b, 0, none⟩ = some (.string src) := by have h' := h; unfold Scn at h'; simp [World.cell?, h']
theorem Scn.bat (h : Scn w b src B H tk F) : w.cell? ⟨b, 1, none⟩ = some (.int .i64 B.at') := by have h' := h; unfold Scn at h'; simp [World.cell?, h']
theorem Scn.bline (h : Scn w b src B H tk F) : w.cell? ⟨b, 2, none⟩ = some (.int .i64 B.line) := by have h' := h; unfold Scn at h'; simp [World.cell?, h']
theorem Scn.bcol (h : Scn w b src B H tk F) : w.cell? ⟨b, 3, none⟩ = some (.int .i64 B.col) := by have h' := h; unfold Scn at h'; simp [World.cell?, h']
theorem Scn.hat (h : Scn w b src B H tk F) : w.cell? ⟨b, 4, none⟩ = some (.int .i64 H.at') := by have h' := h; unfold Scn at h'; simp [World.cell?, h']
theorem Scn.hline (h : Scn w b src B H tk F) : w.cell? ⟨b, 5, none⟩ = some (.int .i64 H.line) := by have h' := h; unfold Scn at h'; simp [World.cell?, h']
theorem Scn.hcol (h : Scn w b src B H tk F) : w.cell? ⟨b, 6, none⟩ = some (.int .i64 H.col) := by have h' := h; unfold Scn at h'; simp [World.cell?, h']
theorem Scn.toks (h : Scn w b src B H tk F) : w.cell? ⟨b, 7, none⟩ = some tk := by have h' := h; unfold Scn at h'; simp [World.cell?, h']
theorem Scn.fz (h : Scn w b src B H tk F) (k : Nat) : w.frozen? ⟨b, k, none⟩ = false := by have h' := h; unfold Scn at h'; simp [World.frozen?, h']
end
/-- The byte at i, or 0. -/
def byteAt (s : ByteArray) (i : Nat) : Int := if h : i < s.size then (s[i].toNat : Int) else 0
set_option maxRecDepth 100000 in
theorem ended_q {w : World} {b : Nat} {src : ByteArray} {B H : At} {tk : Value} {F : Flt} (hS : Scn w b src B H tk F) :
    Calls Tryz.prog 38 #[.pointer (some ⟨b, 0, none⟩)] w fun e w' => e = .returned (.bool (((H.at' : Nat) : Int) == ((src.size : Nat) : Int))) ∧ Only (fun _ => False) w w' := by
  have c0 := hS.src'
  have c4 := hS.hat
  go_enter Tryz.func38, Tryz.ntmps38
  go_wp2
  go_region
  all_goals
    go_wp2
    go_ret
    exact ⟨rfl, Only.of_below (Below.refl _ _).drew⟩
set_option maxRecDepth 100000 in
theorem peek_q {w : World} {b : Nat} {src : ByteArray} {B H : At} {tk : Value} {F : Flt} (hS : Scn w b src B H tk F) (k : Nat) (hk : k ≤ 10) (hz : src.size ≤ 1000000) (hH : H.at' ≤ 1000000) :
    Calls Tryz.prog 37 #[.pointer (some ⟨b, 0, none⟩), .int .i64 k] w fun e w' => e = .returned (.int .u8 (byteAt src (H.at' + k))) ∧ Only (fun _ => False) w w' := by
  have c0 := hS.src'
  have c4 := hS.hat
  by_cases hlt : H.at' + k < src.size
  · obtain ⟨m, hm⟩ : ∃ m : Nat, m = H.at' + k := ⟨_, rfl⟩
    rw [← hm] at hlt ⊢
    have hmi : ((H.at' : Nat) : Int) + ((k : Nat) : Int) = (m : Int) := by omega
    have HB : Hid (byteAt src m = ((src[m]'hlt).toNat : Int)) := Lib.hid (by simp [byteAt, hlt])
    have hmm : m ≤ 2000000 := by omega
    clear hm
    go_enter Tryz.func37, Tryz.ntmps37
    go_wp2
    go_region
    all_goals
      go_wp2
      go_region
      all_goals
        go_wp2
        go_ret
        exact ⟨by rw [HB.out]; rfl, Only.of_below (Below.refl _ _).drew.drew⟩
  · have HB : Hid (byteAt src (H.at' + k) = 0) := Lib.hid (by simp [byteAt, hlt])
    go_enter Tryz.func37, Tryz.ntmps37
    go_wp2
    go_region
    all_goals
      go_wp2
      go_ret
      exact ⟨by rw [HB.out]; rfl, Only.of_below (Below.refl _ _).drew⟩
end Go.Proofs.YtakojceggpljoaaGreatDoor
