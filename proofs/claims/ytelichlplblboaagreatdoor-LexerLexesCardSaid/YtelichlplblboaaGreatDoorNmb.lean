/-
  WALKS. Package names: qualified names apart, numbers, bases.
  WALKS. Package names: Base, Classify.
  PLAIN. The numbers of generated names: a numeral is the one that its value is written with.
-/
import Derived.Test.YtelichlplblboaaGreatDoorNma
import Derived.Lib.ItoaLen
namespace Go.Proofs.YtelichlplblboaaGreatDoor
open Go.RowKit
def spM (s : ByteArray) : ByteArray := if spl s.data.toList then ⟨(Lib.cut s.data.toList [46]).1.toArray⟩ else ⟨#[]⟩
def spN (s : ByteArray) : ByteArray := if spl s.data.toList then ⟨(Lib.cut s.data.toList [46]).2.1.toArray⟩ else ⟨#[]⟩
theorem cut_len (l : List UInt8) : (Lib.cut l [46]).1.length ≤ l.length ∧ (Lib.cut l [46]).2.1.length ≤ l.length := by
  unfold Lib.cut
  split <;> simp; omega
theorem size_mk (l : List UInt8) : (⟨l.toArray⟩ : ByteArray).size = l.length := by rw [Lib.size_eq]
theorem app_size (a b : ByteArray) : (a ++ b).size = a.size + b.size := by simp
theorem app_data (a b : ByteArray) : (a ++ b).data.toList = a.data.toList ++ b.data.toList := by simp
set_option maxHeartbeats 400000 in
theorem split_q (s : ByteArray) (W w : World) (hs : s.size ≤ 1000000) (hq : Q W w) :
    Calls Tryz.prog 165 #[.string s] w fun e w' => e = .returned (.tuple #[.string (spM s), .string (spN s), .bool (spl s.data.toList)]) ∧ Q W w' := by
  have hc := cut_len s.data.toList
  rw [← Lib.size_eq] at hc
  obtain ⟨hc1, hc2⟩ := hc
  have z1 : (⟨(Lib.cut s.data.toList [46]).1.toArray⟩ : ByteArray).size ≤ 1000000 := by rw [size_mk]; omega
  have z2 : (⟨(Lib.cut s.data.toList [46]).2.1.toArray⟩ : ByteArray).size ≤ 1000000 := by rw [size_mk]; omega
  have Z1 := Lib.hid z1
  have Z2 := Lib.hid z2
  clear z1 z2 hc1 hc2
  have HS : Hid (spl s.data.toList = (con (Lib.cut s.data.toList [46]).1 && named (Lib.cut s.data.toList [46]).2.1)) := Lib.hid rfl
  have HM : Hid (spM s = if spl s.data.toList then ⟨(Lib.cut s.data.toList [46]).1.toArray⟩ else ⟨#[]⟩) := Lib.hid rfl
  have HN : Hid (spN s = if spl s.data.toList then ⟨(Lib.cut s.data.toList [46]).2.1.toArray⟩ else ⟨#[]⟩) := Lib.hid rfl
  cases h1 : con (Lib.cut s.data.toList [46]).1
  · have H : Hid (spl s.data.toList = false) := Lib.hid (by rw [HS.out, h1]; rfl)
    go_enter Tryz.func165, Tryz.ntmps165
    go_wp2_with (first | (go_at_call 173; refine (cut_q _ _ _ hs (by assumption)).mono ?_; rintro e w1 ⟨rfl, hq1⟩) | (go_at_call 174; refine (isModule_q _ _ _ Z1.out (by assumption)).mono ?_; rintro e w1 ⟨rfl, hq2⟩) | (go_at_call 164; refine (isSimple_q _ _ _ Z2.out (by assumption)).mono ?_; rintro e w1 ⟨rfl, hq3⟩))
    go_ret3
    exact ⟨by rw [HM.out, HN.out, H.out]; rfl, by assumption⟩
  · cases h2 : named (Lib.cut s.data.toList [46]).2.1
    · have H : Hid (spl s.data.toList = false) := Lib.hid (by rw [HS.out, h1, h2]; rfl)
      go_enter Tryz.func165, Tryz.ntmps165
      go_wp2_with (first | (go_at_call 173; refine (cut_q _ _ _ hs (by assumption)).mono ?_; rintro e w1 ⟨rfl, hq1⟩) | (go_at_call 174; refine (isModule_q _ _ _ Z1.out (by assumption)).mono ?_; rintro e w1 ⟨rfl, hq2⟩) | (go_at_call 164; refine (isSimple_q _ _ _ Z2.out (by assumption)).mono ?_; rintro e w1 ⟨rfl, hq3⟩))
      go_ret3
      exact ⟨by rw [HM.out, HN.out, H.out]; rfl, by assumption⟩
    · have H : Hid (spl s.data.toList = true) := Lib.hid (by rw [HS.out, h1, h2]; rfl)
      go_enter Tryz.func165, Tryz.ntmps165
      go_wp2_with (first | (go_at_call 173; refine (cut_q _ _ _ hs (by assumption)).mono ?_; rintro e w1 ⟨rfl, hq1⟩) | (go_at_call 174; refine (isModule_q _ _ _ Z1.out (by assumption)).mono ?_; rintro e w1 ⟨rfl, hq2⟩) | (go_at_call 164; refine (isSimple_q _ _ _ Z2.out (by assumption)).mono ?_; rintro e w1 ⟨rfl, hq3⟩))
      go_ret3
      exact ⟨by rw [HM.out, HN.out, H.out]; rfl, by assumption⟩
def numOf (l : List UInt8) : Option Int := match Lib.atoiAll l with
  | .ok v => if 0 ≤ v ∧ Lib.itoa v = l then some v else none
  | _ => none
set_option maxHeartbeats 400000 in
theorem number_q (s : ByteArray) (W w : World) (hs : s.size ≤ 1000000) (hq : Q W w) :
    Calls Tryz.prog 150 #[.string s] w fun e w' => e = .returned (.tuple #[.int .i64 ((numOf s.data.toList).getD 0), .bool (numOf s.data.toList).isSome]) ∧ Q W w' := by
  have HT := Lib.hid (Lib.toList_data s)
  by_cases h : ∃ v, Lib.atoiAll s.data.toList = .ok v
  · obtain ⟨v, hv⟩ := h
    have hb := Lib.atoiAll_bounds hv
    obtain ⟨hb0, hb1⟩ := hb
    have HV := Lib.hid hv
    clear hv
    by_cases hn : 0 ≤ v
    · cases hi : (Lib.itoa v == s.toList)
      · have HN : Hid (numOf s.data.toList = none) := Lib.hid (by rw [numOf, HV.out, ← HT.out]; simp at hi; simp [hi])
        have e1 : decide (v < 0) = false := by simp; omega
        go_enter Tryz.func150, Tryz.ntmps150
        go_wp2_with (first | (go_at_call 166; refine (atoi_ok _ v HV.out _ _ (by omega) (by assumption)).mono ?_; rintro e w1 ⟨rfl, hq1⟩) | (go_at_call 106; refine (itoa_q _ _ _ (by omega) (by omega) (by assumption)).mono ?_; rintro e w1 ⟨rfl, hq2⟩))
        go_ret2
        exact ⟨by rw [HN.out]; rfl, by assumption⟩
      · have HN : Hid (numOf s.data.toList = some v) := Lib.hid (by rw [numOf, HV.out, ← HT.out]; simp at hi; simp [hi, hn])
        have e1 : decide (v < 0) = false := by simp; omega
        go_enter Tryz.func150, Tryz.ntmps150
        go_wp2_with (first | (go_at_call 166; refine (atoi_ok _ v HV.out _ _ (by omega) (by assumption)).mono ?_; rintro e w1 ⟨rfl, hq1⟩) | (go_at_call 106; refine (itoa_q _ _ _ (by omega) (by omega) (by assumption)).mono ?_; rintro e w1 ⟨rfl, hq2⟩))
        go_ret2
        exact ⟨by rw [HN.out]; rfl, by assumption⟩
    · have HN : Hid (numOf s.data.toList = none) := Lib.hid (by rw [numOf, HV.out]; simp [hn])
      have e1 : decide (v < 0) = true := by simp; omega
      have e2 : v < 0 := by omega
      clear hn
      go_enter Tryz.func150, Tryz.ntmps150
      go_wp2_with (first | (go_at_call 166; refine (atoi_ok _ v HV.out _ _ (by omega) (by assumption)).mono ?_; rintro e w1 ⟨rfl, hq1⟩) | (go_at_call 106; refine (itoa_q _ _ _ (by omega) (by omega) (by assumption)).mono ?_; rintro e w1 ⟨rfl, hq2⟩))
      go_ret2
      exact ⟨by rw [HN.out]; rfl, by assumption⟩
  · have h' : ∀ v, Lib.atoiAll s.data.toList ≠ .ok v := fun v e => h ⟨v, e⟩
    have HV := Lib.hid h'
    have HN : Hid (numOf s.data.toList = none) := Lib.hid (by
      rw [numOf]
      cases hk : Lib.atoiAll s.data.toList
      · exact absurd hk (h' _)
      · rfl
      · rfl)
    clear h h'
    go_enter Tryz.func150, Tryz.ntmps150
    go_wp2_with (first | (go_at_call 166; refine (atoi_no _ HV.out _ _ (by omega) (by assumption)).mono ?_; rintro e w1 ⟨⟨v, t, p, rfl⟩, hq1⟩))
    go_ret2
    exact ⟨by rw [HN.out]; rfl, by assumption⟩
set_option maxHeartbeats 400000 in
theorem isBase_q (s : ByteArray) (W w : World) (hs : s.size ≤ 1000000) (hq : Q W w) :
    Calls Tryz.prog 149 #[.string s] w fun e w' => e = .returned (.bool (stem s.data.toList)) ∧ Q W w' := by
  have HS : Hid (stem s.data.toList = (named s.data.toList || spl s.data.toList)) := Lib.hid rfl
  go_enter Tryz.func149, Tryz.ntmps149
  go_wp2_with (first | (go_at_call 164; refine (isSimple_q _ _ _ (by omega) (by assumption)).mono ?_; rintro e w1 ⟨rfl, hq2⟩) | (go_at_call 165; refine (split_q _ _ _ (by omega) (by assumption)).mono ?_; rintro e w1 ⟨rfl, hq2⟩))
  all_goals (go_ret; exact ⟨ret_bool (by rw [HS.out]; simp_all), by assumption⟩)
end Go.Proofs.YtelichlplblboaaGreatDoor
namespace Go.Proofs.YtelichlplblboaaGreatDoor
open Go.RowKit
/-- Where the last $ stands. -/
def lix (s : ByteArray) : Int := Lib.lastIndexByte s 36
theorem lix_cases (s : ByteArray) : lix s = -1 ∨ ∃ i : Nat, i < s.size ∧ lix s = (i : Int) := by
  rcases Lib.lastIdx_spec s 36 s.size with ⟨h, _⟩ | ⟨i, hi, h, _⟩
  · exact .inl h
  · exact .inr ⟨i, hi, h⟩
theorem lix_v (s : ByteArray) (v : Int) (w : World) (hs : s.size ≤ 1000000) (h : lix s = v) :
    Calls Tryz.prog 148 #[.string s, .int .u8 36] w fun e w' => e = .returned (.int .i64 v) ∧ w = w' :=
  (Tryz.strings_LastIndexByte s 36 (by omega) w).mono fun _ _ ⟨he, hw⟩ => ⟨by rw [he]; exact ret_int h, hw.symm⟩
/-- The base and the number of a generated name, if it is one. -/
def basO (s : ByteArray) : Option (ByteArray × Int) :=
  if lix s < 0 then none else
  if stem (s.extract 0 (lix s).toNat).data.toList then (numOf (s.extract ((lix s).toNat + 1) s.size).data.toList).map fun n => (s.extract 0 (lix s).toNat, n) else none
def basR (o : Option (ByteArray × Int)) : Value := match o with
  | none => .tuple #[.string ⟨#[]⟩, .int .i64 0, .bool false]
  | some (b, n) => .tuple #[.string b, .int .i64 n, .bool true]
theorem number_v (s : ByteArray) (o : Option Int) (W w : World) (hs : s.size ≤ 1000000) (h : numOf s.data.toList = o) (hq : Q W w) :
    Calls Tryz.prog 150 #[.string s] w fun e w' => e = .returned (.tuple #[.int .i64 (o.getD 0), .bool o.isSome]) ∧ Q W w' := h ▸ number_q s W w hs hq
theorem isBase_v (s : ByteArray) (v : Bool) (W w : World) (hs : s.size ≤ 1000000) (h : stem s.data.toList = v) (hq : Q W w) :
    Calls Tryz.prog 149 #[.string s] w fun e w' => e = .returned (.bool v) ∧ Q W w' := h ▸ isBase_q s W w hs hq
set_option maxHeartbeats 1000000 in
theorem Base_q (s : ByteArray) (W w : World) (hs : s.size ≤ 1000000) (hq : Q W w) :
    Calls Tryz.prog 124 #[.string s] w fun e w' => e = .returned (basR (basO s)) ∧ Q W w' := by
  rcases lix_cases s with h | ⟨i, hi, h⟩
  · have HB : Hid (basR (basO s) = .tuple #[.string ⟨#[]⟩, .int .i64 0, .bool false]) := Lib.hid (by simp [basO, h, basR])
    have H := Lib.hid h
    clear h
    go_enter Tryz.func124, Tryz.ntmps124
    go_wp2_with (first | (go_at_call 148; refine (lix_v _ _ _ hs H.out).mono ?_; rintro e w1 ⟨rfl, rfl⟩))
    go_ret3
    exact ⟨by rw [HB.out]; rfl, by assumption⟩
  · have z1 : (s.extract 0 i).size ≤ 1000000 := by simp; omega
    have z2 : (s.extract (i + 1) s.size).size ≤ 1000000 := by simp; omega
    have Z1 := Lib.hid z1
    have Z2 := Lib.hid z2
    have e0 : decide ((i : Int) < 0) = false := by simp
    have hi2 : i + 1 ≤ s.size := hi
    clear z1 z2
    have H := Lib.hid h
    cases hst : stem (s.extract 0 i).data.toList
    · have HB : Hid (basR (basO s) = .tuple #[.string ⟨#[]⟩, .int .i64 0, .bool false]) := Lib.hid (by simp only [basO, h, Int.toNat_natCast, hst]; simp [basR])
      have HST := Lib.hid hst
      clear h hst
      go_enter Tryz.func124, Tryz.ntmps124
      go_wp2_with (first | (go_at_call 148; refine (lix_v _ _ _ hs H.out).mono ?_; rintro e w1 ⟨rfl, rfl⟩) | (go_at_call 149; refine (isBase_v _ _ _ _ Z1.out HST.out (by assumption)).mono ?_; rintro e w1 ⟨rfl, hq1⟩))
      go_ret3
      exact ⟨by rw [HB.out]; rfl, by assumption⟩
    · cases hn : numOf (s.extract (i + 1) s.size).data.toList with
      | none =>
        have HB : Hid (basR (basO s) = .tuple #[.string ⟨#[]⟩, .int .i64 0, .bool false]) := Lib.hid (by simp only [basO, h, Int.toNat_natCast, hst, hn, if_neg (show ¬ (i : Int) < 0 by omega)]; simp [basR])
        have HN := Lib.hid hn
        have HST := Lib.hid hst
        clear h hn hst
        go_enter Tryz.func124, Tryz.ntmps124
        go_wp2_with (first | (go_at_call 148; refine (lix_v _ _ _ hs H.out).mono ?_; rintro e w1 ⟨rfl, rfl⟩) | (go_at_call 149; refine (isBase_v _ _ _ _ Z1.out HST.out (by assumption)).mono ?_; rintro e w1 ⟨rfl, hq1⟩) | (go_at_call 150; refine (number_v _ _ _ _ Z2.out HN.out (by assumption)).mono ?_; rintro e w1 ⟨rfl, hq2⟩))
        go_ret3
        exact ⟨by rw [HB.out]; rfl, by assumption⟩
      | some n =>
        have HB : Hid (basR (basO s) = .tuple #[.string (s.extract 0 i), .int .i64 n, .bool true]) := Lib.hid (by simp only [basO, h, Int.toNat_natCast, hst, hn, if_neg (show ¬ (i : Int) < 0 by omega)]; simp [basR])
        have HN := Lib.hid hn
        have HST := Lib.hid hst
        clear h hn hst
        go_enter Tryz.func124, Tryz.ntmps124
        go_wp2_with (first | (go_at_call 148; refine (lix_v _ _ _ hs H.out).mono ?_; rintro e w1 ⟨rfl, rfl⟩) | (go_at_call 149; refine (isBase_v _ _ _ _ Z1.out HST.out (by assumption)).mono ?_; rintro e w1 ⟨rfl, hq1⟩) | (go_at_call 150; refine (number_v _ _ _ _ Z2.out HN.out (by assumption)).mono ?_; rintro e w1 ⟨rfl, hq2⟩))
        go_ret3
        exact ⟨by rw [HB.out]; rfl, by assumption⟩
def cls (s : ByteArray) : Int := if wordB s.data.toList then clsW s.data.toList else if symbolB s.data.toList then clsS s.data.toList else if (basO s).isSome then 7 else 0
set_option maxHeartbeats 1000000 in
theorem Classify_q (s : ByteArray) (W w : World) (hs : s.size ≤ 1000000) (hq : Q W w) :
    Calls Tryz.prog 101 #[.string s] w fun e w' => e = .returned (.int .i64 (cls s)) ∧ Q W w' := by
  rcases shp_cases s.data.toList with ⟨h, h1, h2⟩ | ⟨h, h1, h2⟩ | ⟨h, h1, h2⟩
  · have h0 : 0 < s.size := by have := wordB_pos h1; rw [← Lib.size_eq] at this; omega
    have H := Lib.hid h
    have HN : Hid (cls s = clsW s.data.toList) := Lib.hid (by simp [cls, h1])
    clear h h1 h2
    go_enter Tryz.func101, Tryz.ntmps101
    go_wp2_with (first | (go_at_call 121; refine (shape_v _ _ _ _ hs H.out (by assumption)).mono ?_; rintro e w1 ⟨rfl, hq1⟩) | (go_at_call 122; refine (classOfWord_q _ _ h0).mono ?_; rintro e w' ⟨rfl, rfl⟩))
    go_ret
    exact ⟨ret_int HN.out.symm, by assumption⟩
  · have h0 : 0 < s.size := by have := symbolB_pos h2; rw [← Lib.size_eq] at this; omega
    have H := Lib.hid h
    have HN : Hid (cls s = clsS s.data.toList) := Lib.hid (by simp [cls, h1, h2])
    clear h h1 h2
    go_enter Tryz.func101, Tryz.ntmps101
    go_wp2_with (first | (go_at_call 121; refine (shape_v _ _ _ _ hs H.out (by assumption)).mono ?_; rintro e w1 ⟨rfl, hq1⟩) | (go_at_call 123; refine (classOfSymbol_q _ _ h0).mono ?_; rintro e w' ⟨rfl, rfl⟩))
    go_ret
    exact ⟨ret_int HN.out.symm, by assumption⟩
  · have H := Lib.hid h
    cases hb : basO s with
    | none =>
      have HN : Hid (cls s = 0) := Lib.hid (by simp [cls, h1, h2, hb])
      have HB : Hid (basR (basO s) = .tuple #[.string ⟨#[]⟩, .int .i64 0, .bool false]) := Lib.hid (by rw [hb]; rfl)
      clear h h1 h2 hb
      go_enter Tryz.func101, Tryz.ntmps101
      go_wp2_with (first | (go_at_call 121; refine (shape_v _ _ _ _ hs H.out (by assumption)).mono ?_; rintro e w1 ⟨rfl, hq1⟩) | (go_at_call 124; refine (Base_q _ _ _ hs (by assumption)).mono ?_; rintro e w1 ⟨rfl, hq2⟩; rw [HB.out]))
      go_ret
      exact ⟨ret_int HN.out.symm, by assumption⟩
    | some p =>
      have HN : Hid (cls s = 7) := Lib.hid (by simp [cls, h1, h2, hb])
      have HB : Hid (basR (basO s) = .tuple #[.string p.1, .int .i64 p.2, .bool true]) := Lib.hid (by rw [hb]; rfl)
      clear h h1 h2 hb
      go_enter Tryz.func101, Tryz.ntmps101
      go_wp2_with (first | (go_at_call 121; refine (shape_v _ _ _ _ hs H.out (by assumption)).mono ?_; rintro e w1 ⟨rfl, hq1⟩) | (go_at_call 124; refine (Base_q _ _ _ hs (by assumption)).mono ?_; rintro e w1 ⟨rfl, hq2⟩; rw [HB.out]))
      go_ret
      exact ⟨ret_int HN.out.symm, by assumption⟩
end Go.Proofs.YtelichlplblboaaGreatDoor
namespace Go.Proofs.YtelichlplblboaaGreatDoor
open Go.RowKit
def dgB (c : UInt8) : Bool := dg (c.toNat : Int)
/-- The value of a row of digits. -/
def vl (l : List UInt8) : Nat := l.foldl (fun a c => a * 10 + (c.toNat - 48)) 0
theorem vl_snoc (l : List UInt8) (c : UInt8) : vl (l ++ [c]) = vl l * 10 + (c.toNat - 48) := by simp [vl]
theorem dgB_iff (c : UInt8) : dgB c = true ↔ 48 ≤ c.toNat ∧ c.toNat ≤ 57 := by
  unfold dgB dg; simp; omega
/-- Digits, at least one, no 0 ahead of others. -/
def canon (l : List UInt8) : Bool := decide (1 ≤ l.length) && l.all dgB && (decide (l.head? ≠ some 48) || decide (l.length = 1))
theorem ofNat_toNat (c : UInt8) : UInt8.ofNat c.toNat = c := by simp
theorem vl_pos : ∀ (l : List UInt8), 1 ≤ l.length → l.all dgB = true → l.head? ≠ some 48 → 1 ≤ vl l := by
  intro l
  have key : ∀ (r : List UInt8) (a : Nat), 1 ≤ a → 1 ≤ r.foldl (fun a c => a * 10 + (c.toNat - 48)) a := by
    intro r
    induction r with
    | nil => intro a h; exact h
    | cons c r ih => intro a h; exact ih _ (show 1 ≤ a * 10 + (c.toNat - 48) by omega)
  intro h1 h2 h3
  match l, h1, h2, h3 with
  | c :: r, _, h2, h3 =>
    have hc : dgB c = true := by simp at h2; exact h2.1
    have := (dgB_iff c).1 hc
    have hne : c.toNat ≠ 48 := by
      intro e
      apply h3
      simp only [List.head?_cons, Option.some.injEq]
      apply UInt8.toNat_inj.1
      simpa using e
    unfold vl
    simp only [List.foldl_cons]
    exact key r _ (by omega)
theorem canon_dec : ∀ (n : Nat) (l : List UInt8), l.length = n → canon l = true → Lib.decDigits (vl l) = l := by
  intro n
  induction n with
  | zero => intro l h hc; simp [canon, h] at hc
  | succ n ih =>
    intro l h hc
    have hne : l ≠ [] := by intro e; rw [e] at h; simp at h
    obtain ⟨l', c, rfl⟩ : ∃ l' c, l = l' ++ [c] := ⟨l.dropLast, l.getLast hne, (List.dropLast_concat_getLast hne).symm⟩
    simp only [canon, Bool.and_eq_true, Bool.or_eq_true, decide_eq_true_eq, List.all_append, List.all_cons, List.all_nil, Bool.and_true] at hc
    obtain ⟨⟨_, hd1, hd2⟩, h0⟩ := hc
    have hcd := (dgB_iff c).1 hd2
    rw [vl_snoc]
    by_cases hz : l' = []
    · subst hz
      have e : vl ([] : List UInt8) = 0 := rfl
      rw [e, Lib.decDigits_one (by omega), show 48 + (0 * 10 + (c.toNat - 48)) = c.toNat from by omega, ofNat_toNat]; rfl
    · have hl : 1 ≤ l'.length := by cases l' with | nil => exact absurd rfl hz | cons => simp
      have hh : l'.head? ≠ some 48 := by
        rcases h0 with h0 | h0
        · intro e; apply h0; cases l' with | nil => exact absurd rfl hz | cons a r => simpa using e
        · simp only [List.length_append, List.length_cons, List.length_nil] at h0; omega
      have hp := vl_pos l' hl hd1 hh
      have hi := ih l' (by simp at h; omega) (by simp only [canon, Bool.and_eq_true, Bool.or_eq_true, decide_eq_true_eq]; exact ⟨⟨hl, hd1⟩, .inl hh⟩)
      rw [Lib.decDigits, dif_neg (by omega), show (vl l' * 10 + (c.toNat - 48)) / 10 = vl l' from by omega, hi, show 48 + (vl l' * 10 + (c.toNat - 48)) % 10 = c.toNat from by omega, ofNat_toNat]
theorem dec_canon : ∀ (n : Nat) (u : Nat), u ≤ n → canon (Lib.decDigits u) = true ∧ vl (Lib.decDigits u) = u ∧ (1 ≤ u → (Lib.decDigits u).head? ≠ some 48) := by
  intro n
  induction n with
  | zero =>
    intro u hu
    have : u = 0 := by omega
    subst this
    rw [Lib.decDigits_one (by omega)]
    exact ⟨by decide +kernel, by decide +kernel, fun h => by omega⟩
  | succ n ih =>
    intro u hu
    by_cases h : u < 10
    · rw [Lib.decDigits_one h]
      have H : ∀ m : Fin 10, canon [UInt8.ofNat (48 + m.val)] = true ∧ vl [UInt8.ofNat (48 + m.val)] = m.val ∧ (1 ≤ m.val → [UInt8.ofNat (48 + m.val)].head? ≠ some 48) := by decide +kernel
      exact H ⟨u, h⟩
    · obtain ⟨h1, h2, h3⟩ := ih (u / 10) (by omega)
      have hh := h3 (by omega)
      have hd : dgB (UInt8.ofNat (48 + u % 10)) = true ∧ (UInt8.ofNat (48 + u % 10)).toNat = 48 + u % 10 := by
        have H : ∀ m : Fin 10, dgB (UInt8.ofNat (48 + m.val)) = true ∧ (UInt8.ofNat (48 + m.val)).toNat = 48 + m.val := by decide +kernel
        exact H ⟨u % 10, by omega⟩
      rw [Lib.decDigits, dif_neg h]
      simp only [canon, Bool.and_eq_true, Bool.or_eq_true, decide_eq_true_eq] at h1
      obtain ⟨⟨a1, a2⟩, _⟩ := h1
      have hq : (Lib.decDigits (u / 10) ++ [UInt8.ofNat (48 + u % 10)]).head? ≠ some 48 := by
        cases hl : Lib.decDigits (u / 10) with
        | nil => rw [hl] at a1; simp at a1
        | cons a r => rw [hl] at hh; simpa using hh
      refine ⟨?_, ?_, fun _ => hq⟩
      · simp only [canon, Bool.and_eq_true, Bool.or_eq_true, decide_eq_true_eq]
        exact ⟨⟨by simp, by rw [List.all_append, a2, List.all_cons, hd.1]; rfl⟩, .inl hq⟩
      · rw [vl_snoc, h2, hd.2]; omega
theorem parse_ok : ∀ (l : List UInt8) (a : Nat), l.all dgB = true → l.foldl (fun a c => a * 10 + (c.toNat - 48)) a ≤ 9223372036854775807 → Lib.parseUint10 a l = .ok (l.foldl (fun a c => a * 10 + (c.toNat - 48)) a) := by
  intro l
  have key : ∀ (r : List UInt8) (a : Nat), a ≤ r.foldl (fun a c => a * 10 + (c.toNat - 48)) a := by
    intro r
    induction r with
    | nil => intro a; exact Nat.le_refl _
    | cons c r ih => intro a; exact Nat.le_trans (show a ≤ a * 10 + (c.toNat - 48) by omega) (ih _)
  induction l with
  | nil => intro a _ _; rfl
  | cons c r ih =>
    intro a hd hb
    simp only [List.all_cons, Bool.and_eq_true] at hd
    have hc := (dgB_iff c).1 hd.1
    simp only [List.foldl_cons] at hb ⊢
    have := key r (a * 10 + (c.toNat - 48))
    rw [Lib.parseUint10, if_pos hc, if_neg (by omega), if_neg (by omega)]
    exact ih _ hd.2 hb
theorem numOf_eq (l : List UInt8) : numOf l = if canon l = true ∧ vl l ≤ 9223372036854775807 then some (vl l : Int) else none := by
  split
  · rename_i h
    obtain ⟨hc, hv⟩ := h
    have hc' := hc
    simp only [canon, Bool.and_eq_true, Bool.or_eq_true, decide_eq_true_eq] at hc'
    obtain ⟨⟨h1, h2⟩, _⟩ := hc'
    match l, h1, h2 with
    | c :: r, h1, h2 =>
      have hd : dgB c = true := by simp at h2; exact h2.1
      have hcd := (dgB_iff c).1 hd
      have hm : Lib.parseMag (c :: r) = .ok (vl (c :: r)) := by
        unfold Lib.parseMag
        rw [if_neg (by simp)]
        exact parse_ok (c :: r) 0 h2 hv
      have ha : Lib.atoiAll (c :: r) = .ok ((vl (c :: r) : Nat) : Int) := by
        rw [Lib.atoiAll_plain c r (by omega) (by omega), hm, Lib.signless, if_neg (by omega)]
      have hi : Lib.itoa ((vl (c :: r) : Nat) : Int) = c :: r := by
        rw [Lib.itoa, if_neg (by omega), Int.toNat_natCast]
        exact canon_dec _ _ rfl hc
      unfold numOf
      rw [ha]
      simp only
      rw [if_pos ⟨by omega, hi⟩]
  · rename_i h
    unfold numOf
    split
    · rename_i v hv
      rw [if_neg]
      rintro ⟨h0, hi⟩
      apply h
      have hb := Lib.atoiAll_bounds hv
      obtain ⟨m, rfl⟩ := Int.eq_ofNat_of_zero_le h0
      rw [Lib.itoa, if_neg (by omega), Int.toNat_natCast] at hi
      obtain ⟨a1, a2, _⟩ := dec_canon m m (Nat.le_refl _)
      rw [hi] at a1 a2
      exact ⟨a1, by omega⟩
    · rfl
end Go.Proofs.YtelichlplblboaaGreatDoor
