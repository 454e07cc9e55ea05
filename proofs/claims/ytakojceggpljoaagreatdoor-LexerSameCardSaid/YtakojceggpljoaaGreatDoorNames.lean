/-
  WALKS. Package names without the supply: classes, qualified names, generated names.
-/
import Derived.Test.YtakojceggpljoaaGreatDoorRes
import Derived.Test.YtakojceggpljoaaGreatDoorLw
namespace Go.Proofs.YtakojceggpljoaaGreatDoor
open Go.RowKit
def hd (l : List UInt8) : Int := ((l.headD 0).toNat : Int)
def clsW (l : List UInt8) : Int := if resW l then 5 else if up (hd l) then 2 else 1
def clsS (l : List UInt8) : Int := if resS l then 6 else if hd l = 58 then 4 else 3
def named (l : List UInt8) : Bool := (wordB l && !resW l) || (symbolB l && !resS l)
def con (l : List UInt8) : Bool := wordB l && up (hd l)
def spl (l : List UInt8) : Bool := con (Lib.cut l [46]).1 && named (Lib.cut l [46]).2.1
def stem (l : List UInt8) : Bool := named l || spl l
theorem hd_eq {s : ByteArray} (h : 0 < s.size) : hd s.data.toList = (s[0].toNat : Int) := by
  have h' : 0 < s.data.toList.length := by rw [← Lib.size_eq]; exact h
  have e : s.data.toList.headD 0 = s[0] := by
    rw [show s[0] = s.data.toList[0] from rfl, ← List.head_eq_getElem (List.ne_nil_of_length_pos h'), List.headD_eq_head?_getD, List.head?_eq_some_head (List.ne_nil_of_length_pos h')]; rfl
  rw [hd, e]
theorem wordB_pos {l : List UInt8} (h : wordB l = true) : 1 ≤ l.length ∧ l.length ≤ 64 := by
  simp [wordB] at h; omega
theorem symbolB_pos {l : List UInt8} (h : symbolB l = true) : 1 ≤ l.length ∧ l.length ≤ 64 := by
  simp [symbolB] at h; omega
theorem word_not_symbol {l : List UInt8} (h : wordB l = true) : symbolB l = false := by
  cases hs : symbolB l
  · rfl
  · exfalso
    cases l with
    | nil => simp [wordB] at h
    | cons c r =>
      have h1 : sttB c = true := by simp [wordB] at h; exact h.1.2
      have h2 : syB c = true := by simp [symbolB] at hs; exact hs.1.2.1
      rw [sy_not_stt c h2] at h1; cases h1
/-- The shape, by cases. -/
theorem shp_cases (l : List UInt8) : (shp l = 1 ∧ wordB l = true ∧ symbolB l = false) ∨ (shp l = 2 ∧ wordB l = false ∧ symbolB l = true) ∨ (shp l = 0 ∧ wordB l = false ∧ symbolB l = false) := by
  cases h : wordB l
  · cases h2 : symbolB l
    · exact .inr (.inr ⟨by simp [shp, h, h2], rfl, rfl⟩)
    · exact .inr (.inl ⟨by simp [shp, h, h2], rfl, rfl⟩)
  · exact .inl ⟨by simp [shp, h], rfl, word_not_symbol h⟩
theorem shape_v (s : ByteArray) (v : Int) (W w : World) (hs : s.size ≤ 1000000) (hv : shp s.data.toList = v) (hq : Q W w) :
    Calls Tryz.prog 121 #[.string s] w fun e w' => e = .returned (.int .i64 v) ∧ Q W w' := hv ▸ shape_q s W w hs hq
set_option maxHeartbeats 400000 in
theorem isSimple_q (s : ByteArray) (W w : World) (hs : s.size ≤ 1000000) (hq : Q W w) :
    Calls Tryz.prog 164 #[.string s] w fun e w' => e = .returned (.bool (named s.data.toList)) ∧ Q W w' := by
  rcases shp_cases s.data.toList with ⟨h, h1, h2⟩ | ⟨h, h1, h2⟩ | ⟨h, h1, h2⟩
  all_goals
    have H := Lib.hid h
    have HN : Hid (named s.data.toList = ((wordB s.data.toList && !resW s.data.toList) || (symbolB s.data.toList && !resS s.data.toList))) := Lib.hid rfl
    have H1 := Lib.hid h1
    have H2 := Lib.hid h2
    clear h h1 h2
    go_enter Tryz.func164, Tryz.ntmps164
    go_wp2_with (first | (go_at_call 121; refine (shape_v _ _ _ _ hs H.out (by assumption)).mono ?_; rintro e w1 ⟨rfl, hq1⟩) | (go_at_call 146; refine (resW_any _ _).mono ?_; rintro e w' ⟨rfl, rfl⟩) | (go_at_call 147; refine (resS_any _ _).mono ?_; rintro e w' ⟨rfl, rfl⟩))
    go_ret
    exact ⟨ret_bool (by rw [HN.out, H1.out, H2.out]; simp), by assumption⟩
set_option maxHeartbeats 400000 in
theorem isModule_q (s : ByteArray) (W w : World) (hs : s.size ≤ 1000000) (hq : Q W w) :
    Calls Tryz.prog 174 #[.string s] w fun e w' => e = .returned (.bool (con s.data.toList)) ∧ Q W w' := by
  rcases shp_cases s.data.toList with ⟨h, h1, h2⟩ | ⟨h, h1, h2⟩ | ⟨h, h1, h2⟩
  · have h0 : 0 < s.size := by have := wordB_pos h1; rw [← Lib.size_eq] at this; omega
    have H := Lib.hid h
    have HN : Hid (con s.data.toList = up (s[0].toNat : Int)) := Lib.hid (by rw [con, h1, hd_eq h0]; rfl)
    clear h h1 h2
    go_enter Tryz.func174, Tryz.ntmps174
    go_wp2_with (first | (go_at_call 121; refine (shape_v _ _ _ _ hs H.out (by assumption)).mono ?_; rintro e w1 ⟨rfl, hq1⟩) | (go_at_call 86; refine (isUpper_any _ _).mono ?_; rintro e w' ⟨rfl, rfl⟩))
    go_ret
    exact ⟨ret_bool HN.out.symm, by assumption⟩
  all_goals
    have H := Lib.hid h
    have HN : Hid (con s.data.toList = false) := Lib.hid (by rw [con, h1]; rfl)
    clear h h1 h2
    go_enter Tryz.func174, Tryz.ntmps174
    go_wp2_with (first | (go_at_call 121; refine (shape_v _ _ _ _ hs H.out (by assumption)).mono ?_; rintro e w1 ⟨rfl, hq1⟩) | (go_at_call 86; refine (isUpper_any _ _).mono ?_; rintro e w' ⟨rfl, rfl⟩))
    go_ret
    exact ⟨ret_bool HN.out.symm, by assumption⟩
set_option maxHeartbeats 400000 in
theorem classOfWord_q (s : ByteArray) (w : World) (h0 : 0 < s.size) :
    Calls Tryz.prog 122 #[.string s] w fun e w' => e = .returned (.int .i64 (clsW s.data.toList)) ∧ w = w' := by
  have HN : Hid (clsW s.data.toList = if resW s.data.toList then (5 : Int) else if up (s[0].toNat : Int) then (2 : Int) else (1 : Int)) := Lib.hid (by rw [clsW, hd_eq h0])
  go_enter Tryz.func122, Tryz.ntmps122
  go_wp2_with (first | (go_at_call 146; refine (resW_any _ _).mono ?_; rintro e w' ⟨rfl, rfl⟩) | (go_at_call 86; refine (isUpper_any _ _).mono ?_; rintro e w' ⟨rfl, rfl⟩))
  all_goals (go_ret; exact ⟨ret_int (by rw [HN.out]; simp_all), rfl⟩)
set_option maxHeartbeats 400000 in
theorem classOfSymbol_q (s : ByteArray) (w : World) (h0 : 0 < s.size) :
    Calls Tryz.prog 123 #[.string s] w fun e w' => e = .returned (.int .i64 (clsS s.data.toList)) ∧ w = w' := by
  have HN : Hid (clsS s.data.toList = if resS s.data.toList then (6 : Int) else if (s[0].toNat : Int) = 58 then (4 : Int) else (3 : Int)) := Lib.hid (by rw [clsS, hd_eq h0])
  go_enter Tryz.func123, Tryz.ntmps123
  go_wp2_with (first | (go_at_call 147; refine (resS_any _ _).mono ?_; rintro e w' ⟨rfl, rfl⟩))
  all_goals (go_ret; exact ⟨ret_int (by rw [HN.out]; simp_all), rfl⟩)
end Go.Proofs.YtakojceggpljoaaGreatDoor
