/-
  WALKS. Package names: qualified names apart, numbers, bases.
-/
import Derived.Test.YtakojceggpljoaaGreatDoorNames
import Derived.Lib.ItoaLen
namespace Go.Proofs.YtakojceggpljoaaGreatDoor
open Go.RowKit
def spM (s : ByteArray) : ByteArray := if spl s.data.toList then ⟨(Lib.cut s.data.toList [46]).1.toArray⟩ else ⟨#[]⟩
def spN (s : ByteArray) : ByteArray := if spl s.data.toList then ⟨(Lib.cut s.data.toList [46]).2.1.toArray⟩ else ⟨#[]⟩
theorem cut_len (l : List UInt8) : (Lib.cut l [46]).1.length ≤ l.length ∧ (Lib.cut l [46]).2.1.length ≤ l.length := by
  unfold Lib.cut
  split <;> simp; omega
theorem size_mk (l : List UInt8) : (⟨l.toArray⟩ : ByteArray).size = l.length := by rw [Lib.size_eq]
theorem app_size (a b : ByteArray) : (a ++ b).size = a.size + b.size := by simp
theorem app_data (a b : ByteArray) : (a ++ b).data.toList = a.data.toList ++ b.data.toList := by simp
set_option maxHeartbeats 400000 in
theorem split_q (s : ByteArray) (W w : World) (hs : s.size ≤ 1000000) (hq : Q W w) :
    Calls Tryz.prog 165 #[.string s] w fun e w' => e = .returned (.tuple #[.string (spM s), .string (spN s), .bool (spl s.data.toList)]) ∧ Q W w' := by
  have hc := cut_len s.data.toList
  rw [← Lib.size_eq] at hc
  obtain ⟨hc1, hc2⟩ := hc
  have z1 : (⟨(Lib.cut s.data.toList [46]).1.toArray⟩ : ByteArray).size ≤ 1000000 := by rw [size_mk]; omega
  have z2 : (⟨(Lib.cut s.data.toList [46]).2.1.toArray⟩ : ByteArray).size ≤ 1000000 := by rw [size_mk]; omega
  have Z1 := Lib.hid z1
  have Z2 := Lib.hid z2
  clear z1 z2 hc1 hc2
  have HS : Hid (spl s.data.toList = (con (Lib.cut s.data.toList [46]).1 && named (Lib.cut s.data.toList [46]).2.1)) := Lib.hid rfl
  have HM : Hid (spM s = if spl s.data.toList then ⟨(Lib.cut s.data.toList [46]).1.toArray⟩ else ⟨#[]⟩) := Lib.hid rfl
  have HN : Hid (spN s = if spl s.data.toList then ⟨(Lib.cut s.data.toList [46]).2.1.toArray⟩ else ⟨#[]⟩) := Lib.hid rfl
  cases h1 : con (Lib.cut s.data.toList [46]).1
  · have H : Hid (spl s.data.toList = false) := Lib.hid (by rw [HS.out, h1]; rfl)
    go_enter Tryz.func165, Tryz.ntmps165
    go_wp2_with (first | (go_at_call 173; refine (cut_q _ _ _ hs (by assumption)).mono ?_; rintro e w1 ⟨rfl, hq1⟩) | (go_at_call 174; refine (isModule_q _ _ _ Z1.out (by assumption)).mono ?_; rintro e w1 ⟨rfl, hq2⟩) | (go_at_call 164; refine (isSimple_q _ _ _ Z2.out (by assumption)).mono ?_; rintro e w1 ⟨rfl, hq3⟩))
    go_ret3
    exact ⟨by rw [HM.out, HN.out, H.out]; rfl, by assumption⟩
  · cases h2 : named (Lib.cut s.data.toList [46]).2.1
    · have H : Hid (spl s.data.toList = false) := Lib.hid (by rw [HS.out, h1, h2]; rfl)
      go_enter Tryz.func165, Tryz.ntmps165
      go_wp2_with (first | (go_at_call 173; refine (cut_q _ _ _ hs (by assumption)).mono ?_; rintro e w1 ⟨rfl, hq1⟩) | (go_at_call 174; refine (isModule_q _ _ _ Z1.out (by assumption)).mono ?_; rintro e w1 ⟨rfl, hq2⟩) | (go_at_call 164; refine (isSimple_q _ _ _ Z2.out (by assumption)).mono ?_; rintro e w1 ⟨rfl, hq3⟩))
      go_ret3
      exact ⟨by rw [HM.out, HN.out, H.out]; rfl, by assumption⟩
    · have H : Hid (spl s.data.toList = true) := Lib.hid (by rw [HS.out, h1, h2]; rfl)
      go_enter Tryz.func165, Tryz.ntmps165
      go_wp2_with (first | (go_at_call 173; refine (cut_q _ _ _ hs (by assumption)).mono ?_; rintro e w1 ⟨rfl, hq1⟩) | (go_at_call 174; refine (isModule_q _ _ _ Z1.out (by assumption)).mono ?_; rintro e w1 ⟨rfl, hq2⟩) | (go_at_call 164; refine (isSimple_q _ _ _ Z2.out (by assumption)).mono ?_; rintro e w1 ⟨rfl, hq3⟩))
      go_ret3
      exact ⟨by rw [HM.out, HN.out, H.out]; rfl, by assumption⟩
def numOf (l : List UInt8) : Option Int := match Lib.atoiAll l with
  | .ok v => if 0 ≤ v ∧ Lib.itoa v = l then some v else none
  | _ => none
set_option maxHeartbeats 400000 in
theorem number_q (s : ByteArray) (W w : World) (hs : s.size ≤ 1000000) (hq : Q W w) :
    Calls Tryz.prog 150 #[.string s] w fun e w' => e = .returned (.tuple #[.int .i64 ((numOf s.data.toList).getD 0), .bool (numOf s.data.toList).isSome]) ∧ Q W w' := by
  have HT := Lib.hid (Lib.toList_data s)
  by_cases h : ∃ v, Lib.atoiAll s.data.toList = .ok v
  · obtain ⟨v, hv⟩ := h
    have hb := Lib.atoiAll_bounds hv
    obtain ⟨hb0, hb1⟩ := hb
    have HV := Lib.hid hv
    clear hv
    by_cases hn : 0 ≤ v
    · cases hi : (Lib.itoa v == s.toList)
      · have HN : Hid (numOf s.data.toList = none) := Lib.hid (by rw [numOf, HV.out, ← HT.out]; simp at hi; simp [hi])
        have e1 : decide (v < 0) = false := by simp; omega
        go_enter Tryz.func150, Tryz.ntmps150
        go_wp2_with (first | (go_at_call 166; refine (atoi_ok _ v HV.out _ _ (by omega) (by assumption)).mono ?_; rintro e w1 ⟨rfl, hq1⟩) | (go_at_call 106; refine (itoa_q _ _ _ (by omega) (by omega) (by assumption)).mono ?_; rintro e w1 ⟨rfl, hq2⟩))
        go_ret2
        exact ⟨by rw [HN.out]; rfl, by assumption⟩
      · have HN : Hid (numOf s.data.toList = some v) := Lib.hid (by rw [numOf, HV.out, ← HT.out]; simp at hi; simp [hi, hn])
        have e1 : decide (v < 0) = false := by simp; omega
        go_enter Tryz.func150, Tryz.ntmps150
        go_wp2_with (first | (go_at_call 166; refine (atoi_ok _ v HV.out _ _ (by omega) (by assumption)).mono ?_; rintro e w1 ⟨rfl, hq1⟩) | (go_at_call 106; refine (itoa_q _ _ _ (by omega) (by omega) (by assumption)).mono ?_; rintro e w1 ⟨rfl, hq2⟩))
        go_ret2
        exact ⟨by rw [HN.out]; rfl, by assumption⟩
    · have HN : Hid (numOf s.data.toList = none) := Lib.hid (by rw [numOf, HV.out]; simp [hn])
      have e1 : decide (v < 0) = true := by simp; omega
      have e2 : v < 0 := by omega
      clear hn
      go_enter Tryz.func150, Tryz.ntmps150
      go_wp2_with (first | (go_at_call 166; refine (atoi_ok _ v HV.out _ _ (by omega) (by assumption)).mono ?_; rintro e w1 ⟨rfl, hq1⟩) | (go_at_call 106; refine (itoa_q _ _ _ (by omega) (by omega) (by assumption)).mono ?_; rintro e w1 ⟨rfl, hq2⟩))
      go_ret2
      exact ⟨by rw [HN.out]; rfl, by assumption⟩
  · have h' : ∀ v, Lib.atoiAll s.data.toList ≠ .ok v := fun v e => h ⟨v, e⟩
    have HV := Lib.hid h'
    have HN : Hid (numOf s.data.toList = none) := Lib.hid (by
      rw [numOf]
      cases hk : Lib.atoiAll s.data.toList
      · exact absurd hk (h' _)
      · rfl
      · rfl)
    clear h h'
    go_enter Tryz.func150, Tryz.ntmps150
    go_wp2_with (first | (go_at_call 166; refine (atoi_no _ HV.out _ _ (by omega) (by assumption)).mono ?_; rintro e w1 ⟨⟨v, t, p, rfl⟩, hq1⟩))
    go_ret2
    exact ⟨by rw [HN.out]; rfl, by assumption⟩
set_option maxHeartbeats 400000 in
theorem isBase_q (s : ByteArray) (W w : World) (hs : s.size ≤ 1000000) (hq : Q W w) :
    Calls Tryz.prog 149 #[.string s] w fun e w' => e = .returned (.bool (stem s.data.toList)) ∧ Q W w' := by
  have HS : Hid (stem s.data.toList = (named s.data.toList || spl s.data.toList)) := Lib.hid rfl
  go_enter Tryz.func149, Tryz.ntmps149
  go_wp2_with (first | (go_at_call 164; refine (isSimple_q _ _ _ (by omega) (by assumption)).mono ?_; rintro e w1 ⟨rfl, hq2⟩) | (go_at_call 165; refine (split_q _ _ _ (by omega) (by assumption)).mono ?_; rintro e w1 ⟨rfl, hq2⟩))
  all_goals (go_ret; exact ⟨ret_bool (by rw [HS.out]; simp_all), by assumption⟩)
end Go.Proofs.YtakojceggpljoaaGreatDoor
