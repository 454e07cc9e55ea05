/-
  WALKS. Package names: Base, Classify.
-/
import Derived.Test.YtakojceggpljoaaGreatDoorNm2
namespace Go.Proofs.YtakojceggpljoaaGreatDoor
open Go.RowKit
/-- Where the last $ stands. -/
def lix (s : ByteArray) : Int := Lib.lastIndexByte s 36
theorem lix_cases (s : ByteArray) : lix s = -1 ∨ ∃ i : Nat, i < s.size ∧ lix s = (i : Int) := by
  rcases Lib.lastIdx_spec s 36 s.size with ⟨h, _⟩ | ⟨i, hi, h, _⟩
  · exact .inl h
  · exact .inr ⟨i, hi, h⟩
theorem lix_v (s : ByteArray) (v : Int) (w : World) (hs : s.size ≤ 1000000) (h : lix s = v) :
    Calls Tryz.prog 148 #[.string s, .int .u8 36] w fun e w' => e = .returned (.int .i64 v) ∧ w = w' :=
  (Tryz.strings_LastIndexByte s 36 (by omega) w).mono fun _ _ ⟨he, hw⟩ => ⟨by rw [he]; exact ret_int h, hw.symm⟩
/-- The base and the number of a generated name, if it is one. -/
def basO (s : ByteArray) : Option (ByteArray × Int) :=
  if lix s < 0 then none else
  if stem (s.extract 0 (lix s).toNat).data.toList then (numOf (s.extract ((lix s).toNat + 1) s.size).data.toList).map fun n => (s.extract 0 (lix s).toNat, n) else none
def basR (o : Option (ByteArray × Int)) : Value := match o with
  | none => .tuple #[.string ⟨#[]⟩, .int .i64 0, .bool false]
  | some (b, n) => .tuple #[.string b, .int .i64 n, .bool true]
theorem number_v (s : ByteArray) (o : Option Int) (W w : World) (hs : s.size ≤ 1000000) (h : numOf s.data.toList = o) (hq : Q W w) :
    Calls Tryz.prog 150 #[.string s] w fun e w' => e = .returned (.tuple #[.int .i64 (o.getD 0), .bool o.isSome]) ∧ Q W w' := h ▸ number_q s W w hs hq
theorem isBase_v (s : ByteArray) (v : Bool) (W w : World) (hs : s.size ≤ 1000000) (h : stem s.data.toList = v) (hq : Q W w) :
    Calls Tryz.prog 149 #[.string s] w fun e w' => e = .returned (.bool v) ∧ Q W w' := h ▸ isBase_q s W w hs hq
set_option maxHeartbeats 1000000 in
theorem Base_q (s : ByteArray) (W w : World) (hs : s.size ≤ 1000000) (hq : Q W w) :
    Calls Tryz.prog 124 #[.string s] w fun e w' => e = .returned (basR (basO s)) ∧ Q W w' := by
  rcases lix_cases s with h | ⟨i, hi, h⟩
  · have HB : Hid (basR (basO s) = .tuple #[.string ⟨#[]⟩, .int .i64 0, .bool false]) := Lib.hid (by simp [basO, h, basR])
    have H := Lib.hid h
    clear h
    go_enter Tryz.func124, Tryz.ntmps124
    go_wp2_with (first | (go_at_call 148; refine (lix_v _ _ _ hs H.out).mono ?_; rintro e w1 ⟨rfl, rfl⟩))
    go_ret3
    exact ⟨by rw [HB.out]; rfl, by assumption⟩
  · have z1 : (s.extract 0 i).size ≤ 1000000 := by simp; omega
    have z2 : (s.extract (i + 1) s.size).size ≤ 1000000 := by simp; omega
    have Z1 := Lib.hid z1
    have Z2 := Lib.hid z2
    have e0 : decide ((i : Int) < 0) = false := by simp
    have hi2 : i + 1 ≤ s.size := hi
    clear z1 z2
    have H := Lib.hid h
    cases hst : stem (s.extract 0 i).data.toList
    · have HB : Hid (basR (basO s) = .tuple #[.string ⟨#[]⟩, .int .i64 0, .bool false]) := Lib.hid (by simp only [basO, h, Int.toNat_natCast, hst]; simp [basR])
      have HST := Lib.hid hst
      clear h hst
      go_enter Tryz.func124, Tryz.ntmps124
      go_wp2_with (first | (go_at_call 148; refine (lix_v _ _ _ hs H.out).mono ?_; rintro e w1 ⟨rfl, rfl⟩) | (go_at_call 149; refine (isBase_v _ _ _ _ Z1.out HST.out (by assumption)).mono ?_; rintro e w1 ⟨rfl, hq1⟩))
      go_ret3
      exact ⟨by rw [HB.out]; rfl, by assumption⟩
    · cases hn : numOf (s.extract (i + 1) s.size).data.toList with
      | none =>
        have HB : Hid (basR (basO s) = .tuple #[.string ⟨#[]⟩, .int .i64 0, .bool false]) := Lib.hid (by simp only [basO, h, Int.toNat_natCast, hst, hn, if_neg (show ¬ (i : Int) < 0 by omega)]; simp [basR])
        have HN := Lib.hid hn
        have HST := Lib.hid hst
        clear h hn hst
        go_enter Tryz.func124, Tryz.ntmps124
        go_wp2_with (first | (go_at_call 148; refine (lix_v _ _ _ hs H.out).mono ?_; rintro e w1 ⟨rfl, rfl⟩) | (go_at_call 149; refine (isBase_v _ _ _ _ Z1.out HST.out (by assumption)).mono ?_; rintro e w1 ⟨rfl, hq1⟩) | (go_at_call 150; refine (number_v _ _ _ _ Z2.out HN.out (by assumption)).mono ?_; rintro e w1 ⟨rfl, hq2⟩))
        go_ret3
        exact ⟨by rw [HB.out]; rfl, by assumption⟩
      | some n =>
        have HB : Hid (basR (basO s) = .tuple #[.string (s.extract 0 i), .int .i64 n, .bool true]) := Lib.hid (by simp only [basO, h, Int.toNat_natCast, hst, hn, if_neg (show ¬ (i : Int) < 0 by omega)]; simp [basR])
        have HN := Lib.hid hn
        have HST := Lib.hid hst
        clear h hn hst
        go_enter Tryz.func124, Tryz.ntmps124
        go_wp2_with (first | (go_at_call 148; refine (lix_v _ _ _ hs H.out).mono ?_; rintro e w1 ⟨rfl, rfl⟩) | (go_at_call 149; refine (isBase_v _ _ _ _ Z1.out HST.out (by assumption)).mono ?_; rintro e w1 ⟨rfl, hq1⟩) | (go_at_call 150; refine (number_v _ _ _ _ Z2.out HN.out (by assumption)).mono ?_; rintro e w1 ⟨rfl, hq2⟩))
        go_ret3
        exact ⟨by rw [HB.out]; rfl, by assumption⟩
def cls (s : ByteArray) : Int := if wordB s.data.toList then clsW s.data.toList else if symbolB s.data.toList then clsS s.data.toList else if (basO s).isSome then 7 else 0
set_option maxHeartbeats 1000000 in
theorem Classify_q (s : ByteArray) (W w : World) (hs : s.size ≤ 1000000) (hq : Q W w) :
    Calls Tryz.prog 101 #[.string s] w fun e w' => e = .returned (.int .i64 (cls s)) ∧ Q W w' := by
  rcases shp_cases s.data.toList with ⟨h, h1, h2⟩ | ⟨h, h1, h2⟩ | ⟨h, h1, h2⟩
  · have h0 : 0 < s.size := by have := wordB_pos h1; rw [← Lib.size_eq] at this; omega
    have H := Lib.hid h
    have HN : Hid (cls s = clsW s.data.toList) := Lib.hid (by simp [cls, h1])
    clear h h1 h2
    go_enter Tryz.func101, Tryz.ntmps101
    go_wp2_with (first | (go_at_call 121; refine (shape_v _ _ _ _ hs H.out (by assumption)).mono ?_; rintro e w1 ⟨rfl, hq1⟩) | (go_at_call 122; refine (classOfWord_q _ _ h0).mono ?_; rintro e w' ⟨rfl, rfl⟩))
    go_ret
    exact ⟨ret_int HN.out.symm, by assumption⟩
  · have h0 : 0 < s.size := by have := symbolB_pos h2; rw [← Lib.size_eq] at this; omega
    have H := Lib.hid h
    have HN : Hid (cls s = clsS s.data.toList) := Lib.hid (by simp [cls, h1, h2])
    clear h h1 h2
    go_enter Tryz.func101, Tryz.ntmps101
    go_wp2_with (first | (go_at_call 121; refine (shape_v _ _ _ _ hs H.out (by assumption)).mono ?_; rintro e w1 ⟨rfl, hq1⟩) | (go_at_call 123; refine (classOfSymbol_q _ _ h0).mono ?_; rintro e w' ⟨rfl, rfl⟩))
    go_ret
    exact ⟨ret_int HN.out.symm, by assumption⟩
  · have H := Lib.hid h
    cases hb : basO s with
    | none =>
      have HN : Hid (cls s = 0) := Lib.hid (by simp [cls, h1, h2, hb])
      have HB : Hid (basR (basO s) = .tuple #[.string ⟨#[]⟩, .int .i64 0, .bool false]) := Lib.hid (by rw [hb]; rfl)
      clear h h1 h2 hb
      go_enter Tryz.func101, Tryz.ntmps101
      go_wp2_with (first | (go_at_call 121; refine (shape_v _ _ _ _ hs H.out (by assumption)).mono ?_; rintro e w1 ⟨rfl, hq1⟩) | (go_at_call 124; refine (Base_q _ _ _ hs (by assumption)).mono ?_; rintro e w1 ⟨rfl, hq2⟩; rw [HB.out]))
      go_ret
      exact ⟨ret_int HN.out.symm, by assumption⟩
    | some p =>
      have HN : Hid (cls s = 7) := Lib.hid (by simp [cls, h1, h2, hb])
      have HB : Hid (basR (basO s) = .tuple #[.string p.1, .int .i64 p.2, .bool true]) := Lib.hid (by rw [hb]; rfl)
      clear h h1 h2 hb
      go_enter Tryz.func101, Tryz.ntmps101
      go_wp2_with (first | (go_at_call 121; refine (shape_v _ _ _ _ hs H.out (by assumption)).mono ?_; rintro e w1 ⟨rfl, hq1⟩) | (go_at_call 124; refine (Base_q _ _ _ hs (by assumption)).mono ?_; rintro e w1 ⟨rfl, hq2⟩; rw [HB.out]))
      go_ret
      exact ⟨ret_int HN.out.symm, by assumption⟩
end Go.Proofs.YtakojceggpljoaaGreatDoor
