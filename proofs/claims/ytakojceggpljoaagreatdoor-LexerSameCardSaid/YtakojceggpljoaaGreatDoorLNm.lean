/-
  WALKS. The scanner's names: runs, classes, a name with its qualifier.
-/
import Derived.Test.YtakojceggpljoaaGreatDoorLText
namespace Go.Proofs.YtakojceggpljoaaGreatDoor
open Go.RowKit Go.Maps
theorem Run_w (s : ByteArray) (a : Nat) (w : World) (hs : s.size ≤ 65536) (ha : a ≤ s.size) :
    Calls Tryz.prog 84 #[.string s, .int .i64 a, .func (.func 90) #[] #[]] w fun r w' => r = .returned (.string (s.extract a (rE wd s a))) ∧ Only (fun _ => False) w w' :=
  (runAt_word s a w (by omega) ha).mono fun _ _ ⟨⟨e, he, hr⟩, hO⟩ => ⟨by rw [he, rE_of hr], hO⟩
theorem Run_s (s : ByteArray) (a : Nat) (w : World) (hs : s.size ≤ 65536) (ha : a ≤ s.size) :
    Calls Tryz.prog 84 #[.string s, .int .i64 a, .func (.func 42) #[] #[]] w fun r w' => r = .returned (.string (s.extract a (rE sy s a))) ∧ Only (fun _ => False) w w' :=
  (runAt_sym s a w (by omega) ha).mono fun _ _ ⟨⟨e, he, hr⟩, hO⟩ => ⟨by rw [he, rE_of hr], hO⟩
set_option maxRecDepth 100000 in
set_option maxHeartbeats 2000000 in
theorem NameAt_p (s : ByteArray) (a : Nat) (w : World) (hs : s.size ≤ 65536) (ha : a ≤ s.size) :
    Calls Tryz.prog 92 #[.string s, .int .i64 a] w fun r w' => r = .returned (.string (s.extract a (nE s a))) ∧ Only (fun _ => False) w w' := by
  by_cases hl : a < s.size
  · cases hst : stt (byteAt s a)
    · have HN : Hid (nE s a = rE sy s a) := Lib.hid (by unfold nE; rw [hst]; rfl)
      have HS : Hid (stt ((s[a]'hl).toNat : Int) = false) := Lib.hid (by rw [← byteAt_lt hl]; exact hst)
      clear hst
      go_enter Tryz.func92, Tryz.ntmps92
      go_wp2_with (first | (go_at_call 43; refine (isStart_any _ _).mono ?_; rw [HS.out]; rintro r w1 ⟨rfl, rfl⟩) | (go_at_call 84; refine (Run_s _ _ _ hs ha).mono ?_; rintro r w1 ⟨rfl, hO⟩))
      go_ret
      exact ⟨by rw [HN.out]; rfl, hO⟩
    · have HN : Hid (nE s a = rE wd s a) := Lib.hid (by unfold nE; rw [hst]; rfl)
      have HS : Hid (stt ((s[a]'hl).toNat : Int) = true) := Lib.hid (by rw [← byteAt_lt hl]; exact hst)
      clear hst
      go_enter Tryz.func92, Tryz.ntmps92
      go_wp2_with (first | (go_at_call 43; refine (isStart_any _ _).mono ?_; rw [HS.out]; rintro r w1 ⟨rfl, rfl⟩) | (go_at_call 84; refine (Run_w _ _ _ hs ha).mono ?_; rintro r w1 ⟨rfl, hO⟩))
      go_ret
      exact ⟨by rw [HN.out]; rfl, hO⟩
  · have HN : Hid (nE s a = rE sy s a) := Lib.hid (by unfold nE; rw [byteAt_ge (by omega), show stt 0 = false from by decide]; rfl)
    have hlf : decide ((a : Int) < (s.size : Int)) = false := by simp; omega
    have hlf' : decide (a < s.size) = false := by simp; omega
    go_enter Tryz.func92, Tryz.ntmps92
    go_wp2_with (first | (go_at_call 84; refine (Run_s _ _ _ hs ha).mono ?_; rintro r w1 ⟨rfl, hO⟩))
    go_ret
    exact ⟨by rw [HN.out]; rfl, hO⟩
theorem Classify_v (s : ByteArray) (v : Int) (W w : World) (hs : s.size ≤ 65536) (hv : cls s = v) (hq : Q W w) :
    Calls Tryz.prog 101 #[.string s] w fun e w' => e = .returned (.int .i64 v) ∧ Q W w' ∧ Only (fun _ => False) w w' :=
  (Classify_q s w w (by omega) hq.self).mono fun _ _ ⟨he, h⟩ => ⟨by rw [he, hv], hq.step h, Only.of_below h.bel⟩
theorem cls_bd (s : ByteArray) : 0 ≤ cls s ∧ cls s ≤ 7 := by
  unfold cls clsW clsS
  repeat' split
  all_goals omega
set_option maxRecDepth 100000 in
set_option maxHeartbeats 2000000 in
theorem opOf_q (t : ByteArray) (W w : World) (hs : t.size ≤ 65536) (hq : Q W w) :
    Calls Tryz.prog 72 #[.string t] w fun e w' => e = .returned (.int .i64 (opo (cls t))) ∧ Q W w' ∧ Only (fun _ => False) w w' := by
  have hb := cls_bd t
  have hc : cls t = 0 ∨ cls t = 1 ∨ cls t = 2 ∨ cls t = 3 ∨ cls t = 4 ∨ cls t = 5 ∨ cls t = 6 ∨ cls t = 7 := by omega
  clear hb
  rcases hc with hc | hc | hc | hc | hc | hc | hc | hc
  all_goals
    have HC := Lib.hid hc
    clear hc
    go_enter Tryz.func72, Tryz.ntmps72
    go_wp2_with (first | (go_at_call 101; refine (Classify_v _ _ _ _ hs HC.out hq).mono ?_; rintro e w1 ⟨rfl, hq1, hO1⟩))
    go_ret
    exact ⟨ret_int (by rw [HC.out]; rfl), hq1, hO1⟩
theorem OnlyMinus_v (t : ByteArray) (v : Bool) (W w : World) (hs : t.size ≤ 65536) (hv : om t.data.toList = v) (hq : Q W w) :
    Calls Tryz.prog 40 #[.string t] w fun e w' => e = .returned (.bool v) ∧ Q W w' ∧ Only (fun _ => False) w w' :=
  (onlyMinus_any t w (by omega)).mono fun _ _ ⟨he, h⟩ => ⟨by rw [he, hv], hq.below h, Only.of_below h⟩
set_option maxRecDepth 100000 in
set_option maxHeartbeats 2000000 in
theorem isQualified_q (t : ByteArray) (v : Bool) (W w : World) (hs : t.size ≤ 65536) (hv : qok t = v) (hq : Q W w) :
    Calls Tryz.prog 91 #[.string t] w fun e w' => e = .returned (.bool v) ∧ Q W w' ∧ Only (fun _ => False) w w' := by
  have HT := Lib.hid (Lib.toList_data t)
  obtain ⟨c, hc⟩ : ∃ c, cls t = c := ⟨_, rfl⟩
  have HC := Lib.hid hc
  cases h0 : t.data.toList.isEmpty
  · have e0 : t.toList.isEmpty = false := by rw [HT.out]; exact h0
    have e0' : (t.toList == []) = false := by rw [HT.out]; cases h : t.data.toList with
      | nil => rw [h] at h0; cases h0
      | cons x y => rfl
    have n0 : (!t.toList.isEmpty) = true := by rw [e0]; rfl
    by_cases h5 : c = 5
    · have HV : Hid (v = false) := Lib.hid (by rw [← hv]; unfold qok; rw [hc, h5]; simp)
      have e5 : (c != 5) = false := by simp [h5]
      clear hc h5 hv h0
      go_enter Tryz.func91, Tryz.ntmps91
      go_wp2_with (first | (go_at_call 101; refine (Classify_v _ _ _ _ hs HC.out hq).mono ?_; rintro e w1 ⟨rfl, hq1, hO1⟩))
      go_ret
      exact ⟨ret_bool HV.out.symm, hq1, hO1⟩
    · by_cases h6 : c = 6
      · have HV : Hid (v = false) := Lib.hid (by rw [← hv]; unfold qok; rw [hc, h6]; simp)
        have e5 : (c != 5) = true := by simp [h5]
        have e6 : (c != 6) = false := by simp [h6]
        clear hc h5 h6 hv h0
        go_enter Tryz.func91, Tryz.ntmps91
        go_wp2_with (first | (go_at_call 101; refine (Classify_v _ _ _ _ hs HC.out hq).mono ?_; rintro e w1 ⟨rfl, hq1, hO1⟩))
        go_ret
        exact ⟨ret_bool HV.out.symm, hq1, hO1⟩
      · have e5 : (c != 5) = true := by simp [h5]
        have e6 : (c != 6) = true := by simp [h6]
        have HV : Hid (v = !om t.data.toList) := Lib.hid (by rw [← hv]; unfold qok; rw [hc, h0, e5, e6]; simp)
        clear hc h5 h6 hv h0
        cases hom : om t.data.toList
        all_goals
          have HO := Lib.hid hom
          clear hom
          go_enter Tryz.func91, Tryz.ntmps91
          go_wp2_with (first | (go_at_call 101; refine (Classify_v _ _ _ _ hs HC.out hq).mono ?_; rintro e w1 ⟨rfl, hq1, hO1⟩) | (go_at_call 40; refine (OnlyMinus_v _ _ _ _ hs HO.out hq1).mono ?_; rintro e w2 ⟨rfl, hq2, hO2⟩))
          go_ret
          exact ⟨ret_bool (by rw [HV.out, HO.out]; rfl), hq2, hO1.trans hO2⟩
  · have HV : Hid (v = false) := Lib.hid (by rw [← hv]; unfold qok; rw [h0]; simp)
    have e0 : t.toList.isEmpty = true := by rw [HT.out]; exact h0
    have e0' : t.toList = [] := by rw [HT.out]; exact List.isEmpty_iff.1 h0
    have e0'' : (t.toList == []) = true := by rw [e0']; rfl
    clear hc hv h0
    go_enter Tryz.func91, Tryz.ntmps91
    go_wp2_with (first | (go_at_call 101; refine (Classify_v _ _ _ _ hs HC.out hq).mono ?_; rintro e w1 ⟨rfl, hq1, hO1⟩))
    go_ret
    exact ⟨ret_bool HV.out.symm, hq1, hO1⟩
end Go.Proofs.YtakojceggpljoaaGreatDoor
