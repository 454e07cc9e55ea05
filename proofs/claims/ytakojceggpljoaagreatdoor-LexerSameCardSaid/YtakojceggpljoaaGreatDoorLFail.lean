/-
  The lexer's scanner: the classes of source bytes; fail, failHere.
-/
import Derived.Test.YtakojceggpljoaaGreatDoorLRun
namespace Go.Proofs.YtakojceggpljoaaGreatDoor
open Go.RowKit
def prn (n : Int) : Bool := decide (32 ≤ n) && decide (n ≤ 126)
def gd (n : Int) : Bool := n == 9 || n == 10 || prn n
set_option maxHeartbeats 400000 in
theorem isPrintable_any (n : Int) (w : World) :
    Calls Tryz.prog 82 #[.int .u8 n] w fun e w' => e = .returned (.bool (prn n)) ∧ w = w' := by
  go_enter Tryz.func82, Tryz.ntmps82
  go_wp2
  all_goals (go_ret; exact ⟨ret_bool (by simp [prn, *]; try omega), rfl⟩)
set_option maxHeartbeats 400000 in
theorem isSourceByte_any (n : Int) (w : World) :
    Calls Tryz.prog 88 #[.int .u8 n] w fun e w' => e = .returned (.bool (gd n)) ∧ w = w' := by
  go_enter Tryz.func88, Tryz.ntmps88
  go_wp2_with (first | (go_at_call 82; refine (isPrintable_any _ _).mono ?_; rintro e w' ⟨rfl, rfl⟩))
  all_goals (go_ret; exact ⟨ret_bool (by simp [gd, *]), rfl⟩)
section
variable {w : World} {b : Nat} {src : ByteArray} {B H : At} {tk : Value} {F : Flt}
theorem Scn.f8 (h : Scn w b src B H tk F) : w.cell? ⟨b, 8, none⟩ = some (.int .i64 F.code) := by have h' := h; unfold Scn at h'; simp [World.cell?, h']
theorem Scn.f9 (h : Scn w b src B H tk F) : w.cell? ⟨b, 9, none⟩ = some (.string F.name) := by have h' := h; unfold Scn at h'; simp [World.cell?, h']
theorem Scn.f10 (h : Scn w b src B H tk F) : w.cell? ⟨b, 10, none⟩ = some (.int .i64 F.line) := by have h' := h; unfold Scn at h'; simp [World.cell?, h']
theorem Scn.f11 (h : Scn w b src B H tk F) : w.cell? ⟨b, 11, none⟩ = some (.int .i64 F.col) := by have h' := h; unfold Scn at h'; simp [World.cell?, h']
theorem Scn.setFault (h : Scn w b src B H tk F) (G : Flt) :
    Scn ((((w.setCell ⟨b, 8, none⟩ (.int .i64 G.code)).setCell ⟨b, 9, none⟩ (.string G.name)).setCell ⟨b, 10, none⟩ (.int .i64 G.line)).setCell ⟨b, 11, none⟩ (.int .i64 G.col)) b src B H tk G := by
  unfold Scn at h ⊢
  simp [World.setCell, Array.getElem?_modify, h]
end
set_option maxRecDepth 100000 in
set_option maxHeartbeats 1000000 in
theorem failHere_q {w : World} {b : Nat} {src : ByteArray} {B H : At} {tk : Value} {F : Flt} (hS : Scn w b src B H tk F) :
    Calls Tryz.prog 46 #[.pointer (some ⟨b, 0, none⟩)] w fun e w' => e = .returned (.bool false) ∧ Scn w' b src B H tk ⟨5, ⟨#[]⟩, H.line, H.col⟩ ∧ Only (· = b) w w' := by
  have c5 := hS.hline
  have c6 := hS.hcol
  have c8 := hS.f8
  have c9 := hS.f9
  have c10 := hS.f10
  have c11 := hS.f11
  have z8 := hS.fz 8
  have z9 := hS.fz 9
  have z10 := hS.fz 10
  have z11 := hS.fz 11
  have HX := hS.setFault ⟨5, ⟨#[]⟩, H.line, H.col⟩
  go_enter Tryz.func46, Tryz.ntmps46
  go_wp2
  go_region
  all_goals
    go_wp2
    go_ret
    exact ⟨rfl, HX, (((((Only.refl (· = b) w).setCell (k := 8) rfl _).setCell (k := 9) rfl _).setCell (k := 10) rfl _).setCell (k := 11) rfl _).drew⟩
set_option maxRecDepth 100000 in
set_option maxHeartbeats 1000000 in
theorem fail_q {w : World} {b : Nat} {src : ByteArray} {B H : At} {tk : Value} {F : Flt} (hS : Scn w b src B H tk F) (code : Int) (nm : ByteArray) :
    Calls Tryz.prog 89 #[.pointer (some ⟨b, 0, none⟩), .int .i64 code, .string nm] w fun e w' => e = .returned (.bool false) ∧ Scn w' b src B H tk ⟨code, nm, B.line, B.col⟩ ∧ Only (· = b) w w' := by
  have c5 := hS.bline
  have c6 := hS.bcol
  have c8 := hS.f8
  have c9 := hS.f9
  have c10 := hS.f10
  have c11 := hS.f11
  have z8 := hS.fz 8
  have z9 := hS.fz 9
  have z10 := hS.fz 10
  have z11 := hS.fz 11
  have HX := hS.setFault ⟨code, nm, B.line, B.col⟩
  go_enter Tryz.func89, Tryz.ntmps89
  go_wp2
  go_region
  all_goals
    go_wp2
    go_ret
    exact ⟨rfl, HX, (((((Only.refl (· = b) w).setCell (k := 8) rfl _).setCell (k := 9) rfl _).setCell (k := 10) rfl _).setCell (k := 11) rfl _).drew⟩
end Go.Proofs.YtakojceggpljoaaGreatDoor
