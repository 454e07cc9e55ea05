/-
  WALKS. The scanner's names: runs, classes, a name with its qualifier.
  WALKS. The scanner's names and identifiers.
  WALKS. The scanner's identifiers.
  WALKS. The scanner's comments; accept.
-/
import Derived.Test.YtelichlplblboaaGreatDoorLb
import Derived.Deep.AppendLies
import Derived.Deep.RegionLaw
namespace Go.Proofs.YtelichlplblboaaGreatDoor
open Go.RowKit Go.Maps
theorem Run_w (s : ByteArray) (a : Nat) (w : World) (hs : s.size ≤ 65536) (ha : a ≤ s.size) :
    Calls Tryz.prog 84 #[.string s, .int .i64 a, .func (.func 90) #[] #[]] w fun r w' => r = .returned (.string (s.extract a (rE wd s a))) ∧ Only (fun _ => False) w w' :=
  (runAt_word s a w (by omega) ha).mono fun _ _ ⟨⟨e, he, hr⟩, hO⟩ => ⟨by rw [he, rE_of hr], hO⟩
theorem Run_s (s : ByteArray) (a : Nat) (w : World) (hs : s.size ≤ 65536) (ha : a ≤ s.size) :
    Calls Tryz.prog 84 #[.string s, .int .i64 a, .func (.func 42) #[] #[]] w fun r w' => r = .returned (.string (s.extract a (rE sy s a))) ∧ Only (fun _ => False) w w' :=
  (runAt_sym s a w (by omega) ha).mono fun _ _ ⟨⟨e, he, hr⟩, hO⟩ => ⟨by rw [he, rE_of hr], hO⟩
set_option maxRecDepth 100000 in
set_option maxHeartbeats 2000000 in
theorem NameAt_p (s : ByteArray) (a : Nat) (w : World) (hs : s.size ≤ 65536) (ha : a ≤ s.size) :
    Calls Tryz.prog 92 #[.string s, .int .i64 a] w fun r w' => r = .returned (.string (s.extract a (nE s a))) ∧ Only (fun _ => False) w w' := by
  by_cases hl : a < s.size
  · cases hst : stt (byteAt s a)
    · have HN : Hid (nE s a = rE sy s a) := Lib.hid (by unfold nE; rw [hst]; rfl)
      have HS : Hid (stt ((s[a]'hl).toNat : Int) = false) := Lib.hid (by rw [← byteAt_lt hl]; exact hst)
      clear hst
      go_enter Tryz.func92, Tryz.ntmps92
      go_wp2_with (first | (go_at_call 43; refine (isStart_any _ _).mono ?_; rw [HS.out]; rintro r w1 ⟨rfl, rfl⟩) | (go_at_call 84; refine (Run_s _ _ _ hs ha).mono ?_; rintro r w1 ⟨rfl, hO⟩))
      go_ret
      exact ⟨by rw [HN.out]; rfl, hO⟩
    · have HN : Hid (nE s a = rE wd s a) := Lib.hid (by unfold nE; rw [hst]; rfl)
      have HS : Hid (stt ((s[a]'hl).toNat : Int) = true) := Lib.hid (by rw [← byteAt_lt hl]; exact hst)
      clear hst
      go_enter Tryz.func92, Tryz.ntmps92
      go_wp2_with (first | (go_at_call 43; refine (isStart_any _ _).mono ?_; rw [HS.out]; rintro r w1 ⟨rfl, rfl⟩) | (go_at_call 84; refine (Run_w _ _ _ hs ha).mono ?_; rintro r w1 ⟨rfl, hO⟩))
      go_ret
      exact ⟨by rw [HN.out]; rfl, hO⟩
  · have HN : Hid (nE s a = rE sy s a) := Lib.hid (by unfold nE; rw [byteAt_ge (by omega), show stt 0 = false from by decide]; rfl)
    have hlf : decide ((a : Int) < (s.size : Int)) = false := by simp; omega
    have hlf' : decide (a < s.size) = false := by simp; omega
    go_enter Tryz.func92, Tryz.ntmps92
    go_wp2_with (first | (go_at_call 84; refine (Run_s _ _ _ hs ha).mono ?_; rintro r w1 ⟨rfl, hO⟩))
    go_ret
    exact ⟨by rw [HN.out]; rfl, hO⟩
theorem Classify_v (s : ByteArray) (v : Int) (W w : World) (hs : s.size ≤ 65536) (hv : cls s = v) (hq : Q W w) :
    Calls Tryz.prog 101 #[.string s] w fun e w' => e = .returned (.int .i64 v) ∧ Q W w' ∧ Only (fun _ => False) w w' :=
  (Classify_q s w w (by omega) hq.self).mono fun _ _ ⟨he, h⟩ => ⟨by rw [he, hv], hq.step h, Only.of_below h.bel⟩
theorem cls_bd (s : ByteArray) : 0 ≤ cls s ∧ cls s ≤ 7 := by
  unfold cls clsW clsS
  repeat' split
  all_goals omega
set_option maxRecDepth 100000 in
set_option maxHeartbeats 2000000 in
theorem opOf_q (t : ByteArray) (W w : World) (hs : t.size ≤ 65536) (hq : Q W w) :
    Calls Tryz.prog 72 #[.string t] w fun e w' => e = .returned (.int .i64 (opo (cls t))) ∧ Q W w' ∧ Only (fun _ => False) w w' := by
  have hb := cls_bd t
  have hc : cls t = 0 ∨ cls t = 1 ∨ cls t = 2 ∨ cls t = 3 ∨ cls t = 4 ∨ cls t = 5 ∨ cls t = 6 ∨ cls t = 7 := by omega
  clear hb
  rcases hc with hc | hc | hc | hc | hc | hc | hc | hc
  all_goals
    have HC := Lib.hid hc
    clear hc
    go_enter Tryz.func72, Tryz.ntmps72
    go_wp2_with (first | (go_at_call 101; refine (Classify_v _ _ _ _ hs HC.out hq).mono ?_; rintro e w1 ⟨rfl, hq1, hO1⟩))
    go_ret
    exact ⟨ret_int (by rw [HC.out]; rfl), hq1, hO1⟩
theorem OnlyMinus_v (t : ByteArray) (v : Bool) (W w : World) (hs : t.size ≤ 65536) (hv : om t.data.toList = v) (hq : Q W w) :
    Calls Tryz.prog 40 #[.string t] w fun e w' => e = .returned (.bool v) ∧ Q W w' ∧ Only (fun _ => False) w w' :=
  (onlyMinus_any t w (by omega)).mono fun _ _ ⟨he, h⟩ => ⟨by rw [he, hv], hq.below h, Only.of_below h⟩
set_option maxRecDepth 100000 in
set_option maxHeartbeats 2000000 in
theorem isQualified_q (t : ByteArray) (v : Bool) (W w : World) (hs : t.size ≤ 65536) (hv : qok t = v) (hq : Q W w) :
    Calls Tryz.prog 91 #[.string t] w fun e w' => e = .returned (.bool v) ∧ Q W w' ∧ Only (fun _ => False) w w' := by
  have HT := Lib.hid (Lib.toList_data t)
  obtain ⟨c, hc⟩ : ∃ c, cls t = c := ⟨_, rfl⟩
  have HC := Lib.hid hc
  cases h0 : t.data.toList.isEmpty
  · have e0 : t.toList.isEmpty = false := by rw [HT.out]; exact h0
    have e0' : (t.toList == []) = false := by rw [HT.out]; cases h : t.data.toList with
      | nil => rw [h] at h0; cases h0
      | cons x y => rfl
    have n0 : (!t.toList.isEmpty) = true := by rw [e0]; rfl
    by_cases h5 : c = 5
    · have HV : Hid (v = false) := Lib.hid (by rw [← hv]; unfold qok; rw [hc, h5]; simp)
      have e5 : (c != 5) = false := by simp [h5]
      clear hc h5 hv h0
      go_enter Tryz.func91, Tryz.ntmps91
      go_wp2_with (first | (go_at_call 101; refine (Classify_v _ _ _ _ hs HC.out hq).mono ?_; rintro e w1 ⟨rfl, hq1, hO1⟩))
      go_ret
      exact ⟨ret_bool HV.out.symm, hq1, hO1⟩
    · by_cases h6 : c = 6
      · have HV : Hid (v = false) := Lib.hid (by rw [← hv]; unfold qok; rw [hc, h6]; simp)
        have e5 : (c != 5) = true := by simp [h5]
        have e6 : (c != 6) = false := by simp [h6]
        clear hc h5 h6 hv h0
        go_enter Tryz.func91, Tryz.ntmps91
        go_wp2_with (first | (go_at_call 101; refine (Classify_v _ _ _ _ hs HC.out hq).mono ?_; rintro e w1 ⟨rfl, hq1, hO1⟩))
        go_ret
        exact ⟨ret_bool HV.out.symm, hq1, hO1⟩
      · have e5 : (c != 5) = true := by simp [h5]
        have e6 : (c != 6) = true := by simp [h6]
        have HV : Hid (v = !om t.data.toList) := Lib.hid (by rw [← hv]; unfold qok; rw [hc, h0, e5, e6]; simp)
        clear hc h5 h6 hv h0
        cases hom : om t.data.toList
        all_goals
          have HO := Lib.hid hom
          clear hom
          go_enter Tryz.func91, Tryz.ntmps91
          go_wp2_with (first | (go_at_call 101; refine (Classify_v _ _ _ _ hs HC.out hq).mono ?_; rintro e w1 ⟨rfl, hq1, hO1⟩) | (go_at_call 40; refine (OnlyMinus_v _ _ _ _ hs HO.out hq1).mono ?_; rintro e w2 ⟨rfl, hq2, hO2⟩))
          go_ret
          exact ⟨ret_bool (by rw [HV.out, HO.out]; rfl), hq2, hO1.trans hO2⟩
  · have HV : Hid (v = false) := Lib.hid (by rw [← hv]; unfold qok; rw [h0]; simp)
    have e0 : t.toList.isEmpty = true := by rw [HT.out]; exact h0
    have e0' : t.toList = [] := by rw [HT.out]; exact List.isEmpty_iff.1 h0
    have e0'' : (t.toList == []) = true := by rw [e0']; rfl
    clear hc hv h0
    go_enter Tryz.func91, Tryz.ntmps91
    go_wp2_with (first | (go_at_call 101; refine (Classify_v _ _ _ _ hs HC.out hq).mono ?_; rintro e w1 ⟨rfl, hq1, hO1⟩))
    go_ret
    exact ⟨ret_bool HV.out.symm, hq1, hO1⟩
end Go.Proofs.YtelichlplblboaaGreatDoor
namespace Go.Proofs.YtelichlplblboaaGreatDoor
open Go.RowKit Go.Maps
section
variable {W w : World} {b : Nat} {s : ByteArray} {i0 i : Nat} {tk : Value} {F : Flt}
theorem ext_size {s : ByteArray} {a e : Nat} (h1 : a ≤ e) (h2 : e ≤ s.size) : (s.extract a e).size = e - a := by simp; omega
theorem ext_ext {s : ByteArray} {a e : Nat} (h1 : a + 64 ≤ e) : (s.extract a e).extract 0 64 = s.extract a (a + 64) := by
  rw [ByteArray.extract_extract]; simp; congr 1; omega
set_option maxRecDepth 100000 in
set_option maxHeartbeats 2000000 in
theorem name_p (hQ : Q W w) (hWb : W.heap.size ≤ b) (hS : Scn w b s (pos s i0) (pos s i) tk F) (q : ByteArray) (fr : Nat) (hz : s.size ≤ 65536) (hif : i ≤ fr) (hfr : fr ≤ s.size) :
    Calls Tryz.prog 50 #[.pointer (some ⟨b, 0, none⟩), .string q, .int .i64 fr] w (TokPost w b s i0 tk F (nmR s i0 q fr)) := by
  have hSz := hS.lt
  have hR := RB.new w
  have hS0 := hS.alloc (.cells #[.int .i64 0, .string ⟨#[]⟩, .string ⟨#[]⟩, .int .i64 0, .bool false, .int .i64 0, .int .i64 0] 38)
  have hQ0 : Q W (w.alloc (.cells #[.int .i64 0, .string ⟨#[]⟩, .string ⟨#[]⟩, .int .i64 0, .bool false, .int .i64 0, .int .i64 0] 38)) := hQ.below ((Below.refl _ _).alloc (Nat.le_refl _) _)
  have c0 := hS0.src'
  have c4 := hS0.hat_p
  obtain ⟨hn1, hn2⟩ := nE_bd hfr
  obtain ⟨e, he⟩ : ∃ e, e = nE s fr := ⟨_, rfl⟩
  rw [← he] at hn1 hn2
  have hts := ext_size (s := s) hn1 hn2
  by_cases hlong : 64 < e - fr
  · have HX := Lib.hid (ext_ext (s := s) (a := fr) (e := e) (by omega))
    have HP : Hid (nmR s i0 q fr = .bad (flt s 3 (s.extract fr (fr + 64)) i0)) := Lib.hid (by unfold nmR; rw [← he, if_pos hlong])
    have HE := Lib.hid he
    obtain ⟨t, ht⟩ : ∃ t, s.extract fr e = t := ⟨_, rfl⟩
    rw [ht] at hts
    rw [HP.out]
    have HT := Lib.hid ht
    have ht64 : 64 < t.size := by omega
    clear ht he hts hlong
    go_enter Tryz.func50, Tryz.ntmps50
    go_wp2_with (first | (go_at_call 92; refine (NameAt_p _ _ _ hz hfr).mono ?_; rw [← HE.out, HT.out]; rintro r w2 ⟨rfl, hO2⟩; have hS2 := hS0.keep hO2) | (go_at_call 89; refine (fail_p hS2 3 _).mono ?_; rintro r w7 ⟨rfl, hB7, hO7⟩; have hO8 := Only.trans hO2.lift hO7; have hR7 := hR.only hO8 (by omega); have d0 := hR7.c0; have d1 := hR7.c1; have d2 := hR7.c2; have d3 := hR7.c3; have d4 := hR7.c4; have d5 := hR7.c5; have d6 := hR7.c6; have z0 := hR7.fz 0; have z1 := hR7.fz 1; have z2 := hR7.fz 2; have z3 := hR7.fz 3; have z4 := hR7.fz 4; have z5 := hR7.fz 5; have z6 := hR7.fz 6))
    exact bodyPost_ret (v := .tuple #[tkZ, .bool false]) (by simp [results, Tryz.results50, go_sem, d0, d1, d2, d3, d4, d5, d6]) rfl (tok_bad rfl rfl hSz (by rw [← HX.out, HT.out]; exact hB7) hO8 (Only.set7 _ _ _ _ _ _ _ _ _))
  · have HP : Hid (nmR s i0 q fr = .ok ⟨opo (cls (s.extract fr e)), q, s.extract fr e, 0⟩ e) := Lib.hid (by unfold nmR; rw [← he, if_neg hlong])
    have HE := Lib.hid he
    obtain ⟨t, ht⟩ : ∃ t, s.extract fr e = t := ⟨_, rfl⟩
    rw [ht] at hts
    rw [HP.out, ht]
    have HT := Lib.hid ht
    have ht64 : t.size ≤ 64 := by omega
    have HV : Hid ((fr : Int) + (t.size : Int) - (i : Int) = ((e - i : Nat) : Int)) := Lib.hid (by omega)
    have hie : i + (e - i) = e := by omega
    have HIE := Lib.hid hie
    have hie' : i + (e - i) ≤ s.size := by omega
    clear ht he hts hlong hie
    go_enter Tryz.func50, Tryz.ntmps50
    go_wp2_with (first | (go_at_call 92; refine (NameAt_p _ _ _ hz hfr).mono ?_; rw [← HE.out, HT.out]; rintro r w2 ⟨rfl, hO2⟩; have hS2 := hS0.keep hO2; have c2 := hS2.hat_p) | (go_at_call 39; rw [HV.out]; refine (skip_p hS2 (e - i) hz hie').mono ?_; rw [HIE.out]; rintro r w4 ⟨rfl, hS4, hO4⟩; have hQ4 := (hQ0.only hO2 (fun _ hc => hc.elim)).only hO4 (fun i hi => by rw [hi]; exact hWb)) | (go_at_call 72; refine (opOf_q _ _ _ (by omega) hQ4).mono ?_; rintro r w7 ⟨rfl, hQ7, hO7⟩; have hS7 := hS4.keep hO7; have hO8 := (Only.trans hO2.lift hO4).trans hO7.lift; have hR7 := hR.only hO8 (by omega); have d0 := hR7.c0; have d1 := hR7.c1; have d2 := hR7.c2; have d3 := hR7.c3; have d4 := hR7.c4; have d5 := hR7.c5; have d6 := hR7.c6; have z0 := hR7.fz 0; have z1 := hR7.fz 1; have z2 := hR7.fz 2; have z3 := hR7.fz 3; have z4 := hR7.fz 4; have z5 := hR7.fz 5; have z6 := hR7.fz 6))
    exact bodyPost_ret (v := .tuple #[tkC ⟨opo (cls t), q, t, 0⟩, .bool true]) (by simp [results, Tryz.results50, go_sem, nil8, d0, d1, d2, d3, d4, d5, d6]) rfl (tok_ok rfl rfl hSz hS7 hO8 (Only.set7 _ _ _ _ _ _ _ _ _))
end
end Go.Proofs.YtelichlplblboaaGreatDoor
namespace Go.Proofs.YtelichlplblboaaGreatDoor
open Go.RowKit Go.Maps
section
variable {W w : World} {b : Nat} {s : ByteArray} {i0 i : Nat} {tk : Value} {F : Flt}
theorem run_wp {B : At} (hS : Scn w b s B (pos s i) tk F) (hz : s.size ≤ 65536) (hi : i ≤ s.size) :
    Calls Tryz.prog 41 #[.pointer (some ⟨b, 0, none⟩), .func (.func 90) #[] #[]] w fun r w' => r = .returned (.string (s.extract i (rE wd s i))) ∧ Only (fun _ => False) w w' :=
  (run_word hS (by omega) (by rw [pos_at]; exact hi)).mono fun _ _ ⟨⟨e, he, hr⟩, hO⟩ => ⟨by rw [pos_at] at he hr; rw [he, rE_of hr], hO⟩
theorem run_sp {B : At} (hS : Scn w b s B (pos s i) tk F) (hz : s.size ≤ 65536) (hi : i ≤ s.size) :
    Calls Tryz.prog 41 #[.pointer (some ⟨b, 0, none⟩), .func (.func 42) #[] #[]] w fun r w' => r = .returned (.string (s.extract i (rE sy s i))) ∧ Only (fun _ => False) w w' :=
  (run_sym hS (by omega) (by rw [pos_at]; exact hi)).mono fun _ _ ⟨⟨e, he, hr⟩, hO⟩ => ⟨by rw [pos_at] at he hr; rw [he, rE_of hr], hO⟩
theorem idR_no {s : ByteArray} {i : Nat} (h : (up (byteAt s i) && decide (rE wd s i < s.size) && decide (byteAt s (rE wd s i) = 46) && qok (s.extract (rE wd s i + 1) (nE s (rE wd s i + 1)))) = false) : idR s i = nmR s i nil8 i := by
  unfold idR; rw [h]; rfl
set_option maxRecDepth 100000 in
set_option maxHeartbeats 2000000 in
theorem id_a (hQ : Q W w) (hWb : W.heap.size ≤ b) (hS : Scn w b s (pos s i) (pos s i) tk F) (hz : s.size ≤ 65536) (hst : stt (byteAt s i) = true) (hu : up (byteAt s i) = false) :
    Calls Tryz.prog 49 #[.pointer (some ⟨b, 0, none⟩)] w (TokPost w b s i tk F (nmR s i nil8 i)) := by
  have hSz := hS.lt
  have hR := RB.new w
  have hS0 := hS.alloc (.cells #[.int .i64 0, .string ⟨#[]⟩, .string ⟨#[]⟩, .int .i64 0, .bool false, .int .i64 0, .int .i64 0] 38)
  have hQ0 : Q W (w.alloc (.cells #[.int .i64 0, .string ⟨#[]⟩, .string ⟨#[]⟩, .int .i64 0, .bool false, .int .i64 0, .int .i64 0] 38)) := hQ.below ((Below.refl _ _).alloc (Nat.le_refl _) _)
  have hl := stt_pos hst
  have hi : i ≤ s.size := Nat.le_of_lt hl
  have he0 := rE_lt hl (wd_of_stt hst)
  have he1 := (rE_end wd hi).hi
  clear hst
  obtain ⟨e, he⟩ : ∃ e, e = rE wd s i := ⟨_, rfl⟩
  rw [← he] at he0 he1
  have hts := ext_size (s := s) (Nat.le_of_lt he0) he1
  have hbz : byteAt s i = ((s.extract i e)[0]'(by omega)).toNat := by rw [byteAt_lt hl]; simp [ByteArray.getElem_extract]
  have hE64 := ext_ext (s := s) (a := i) (e := e)
  have HE := Lib.hid he
  obtain ⟨t, ht⟩ : ∃ t, s.extract i e = t := ⟨_, rfl⟩
  have h0 : 0 < t.size := by rw [← ht]; omega
  have HU : Hid (up ((t[0]'h0).toNat : Int) = up (byteAt s i)) := Lib.hid (by rw [hbz]; subst ht; rfl)
  have hE : (i : Int) + (t.size : Int) = (e : Int) := by rw [← ht, hts]; omega
  have HT := Lib.hid ht
  have hX64 : 64 < t.size → t.extract 0 64 = s.extract i (i + 64) := fun h => by rw [← ht]; exact hE64 (by rw [← ht] at h; omega)
  have HX := Lib.hid hX64
  have hts2 : t.size = e - i := by rw [← ht]; exact hts
  have HTS := Lib.hid hts2
  clear ht hbz hE64 hts hX64 hts2 he
  have HUP := Lib.hid hu
  clear hu
  cases hn : nmR s i nil8 i with
  | ok y g =>
    have HNM := Lib.hid (show nmR s i ⟨#[]⟩ i = _ from hn)
    clear hn
    go_enter Tryz.func49, Tryz.ntmps49
    go_wp2_with (first | (go_at_call 41; refine (run_wp hS0 hz hi).mono ?_; rw [← HE.out, HT.out]; rintro r w2 ⟨rfl, hO2⟩; have hS2 := hS0.keep hO2; have hQ2 := hQ0.only hO2 (fun _ hc => hc.elim); have c0 := hS2.src'; have c4 := hS2.hat_p) | (go_at_call 86; refine (isUpper_any _ _).mono ?_; rw [HU.out, HUP.out]; rintro r w3 ⟨rfl, rfl⟩) | (go_at_call 50; refine (name_p hQ2 hWb hS2 _ i hz (Nat.le_refl i) hi).mono ?_; rw [HNM.out]; rintro r w7 ⟨rfl, hS7, hO7⟩; have hO8 := hO2.lift.trans hO7; have hR7 := hR.only hO8 (by omega); have d0 := hR7.c0; have d1 := hR7.c1; have d2 := hR7.c2; have d3 := hR7.c3; have d4 := hR7.c4; have d5 := hR7.c5; have d6 := hR7.c6; have z0 := hR7.fz 0; have z1 := hR7.fz 1; have z2 := hR7.fz 2; have z3 := hR7.fz 3; have z4 := hR7.fz 4; have z5 := hR7.fz 5; have z6 := hR7.fz 6))
    exact bodyPost_ret (v := .tuple #[tkC y, .bool true]) (by simp [results, Tryz.results49, go_sem, d0, d1, d2, d3, d4, d5, d6]) rfl (tok_ok rfl rfl hSz hS7 hO8 (Only.set7 _ _ _ _ _ _ _ _ _))
  | bad g =>
    have HNM := Lib.hid (show nmR s i ⟨#[]⟩ i = _ from hn)
    clear hn
    go_enter Tryz.func49, Tryz.ntmps49
    go_wp2_with (first | (go_at_call 41; refine (run_wp hS0 hz hi).mono ?_; rw [← HE.out, HT.out]; rintro r w2 ⟨rfl, hO2⟩; have hS2 := hS0.keep hO2; have hQ2 := hQ0.only hO2 (fun _ hc => hc.elim); have c0 := hS2.src'; have c4 := hS2.hat_p) | (go_at_call 86; refine (isUpper_any _ _).mono ?_; rw [HU.out, HUP.out]; rintro r w3 ⟨rfl, rfl⟩) | (go_at_call 50; refine (name_p hQ2 hWb hS2 _ i hz (Nat.le_refl i) hi).mono ?_; rw [HNM.out]; rintro r w7 ⟨rfl, hS7, hO7⟩; have hO8 := hO2.lift.trans hO7; have hR7 := hR.only hO8 (by omega); have d0 := hR7.c0; have d1 := hR7.c1; have d2 := hR7.c2; have d3 := hR7.c3; have d4 := hR7.c4; have d5 := hR7.c5; have d6 := hR7.c6; have z0 := hR7.fz 0; have z1 := hR7.fz 1; have z2 := hR7.fz 2; have z3 := hR7.fz 3; have z4 := hR7.fz 4; have z5 := hR7.fz 5; have z6 := hR7.fz 6))
    exact bodyPost_ret (v := .tuple #[tkZ, .bool false]) (by simp [results, Tryz.results49, go_sem, d0, d1, d2, d3, d4, d5, d6]) rfl (tok_bad rfl rfl hSz hS7 hO8 (Only.set7 _ _ _ _ _ _ _ _ _))
set_option maxRecDepth 100000 in
set_option maxHeartbeats 2000000 in
theorem id_b (hQ : Q W w) (hWb : W.heap.size ≤ b) (hS : Scn w b s (pos s i) (pos s i) tk F) (hz : s.size ≤ 65536) (hst : stt (byteAt s i) = true) (hu : up (byteAt s i) = true) (hend : ¬ rE wd s i < s.size) :
    Calls Tryz.prog 49 #[.pointer (some ⟨b, 0, none⟩)] w (TokPost w b s i tk F (nmR s i nil8 i)) := by
  have hSz := hS.lt
  have hR := RB.new w
  have hS0 := hS.alloc (.cells #[.int .i64 0, .string ⟨#[]⟩, .string ⟨#[]⟩, .int .i64 0, .bool false, .int .i64 0, .int .i64 0] 38)
  have hQ0 : Q W (w.alloc (.cells #[.int .i64 0, .string ⟨#[]⟩, .string ⟨#[]⟩, .int .i64 0, .bool false, .int .i64 0, .int .i64 0] 38)) := hQ.below ((Below.refl _ _).alloc (Nat.le_refl _) _)
  have hl := stt_pos hst
  have hi : i ≤ s.size := Nat.le_of_lt hl
  have he0 := rE_lt hl (wd_of_stt hst)
  have he1 := (rE_end wd hi).hi
  clear hst
  obtain ⟨e, he⟩ : ∃ e, e = rE wd s i := ⟨_, rfl⟩
  rw [← he] at he0 he1
  have hts := ext_size (s := s) (Nat.le_of_lt he0) he1
  have hbz : byteAt s i = ((s.extract i e)[0]'(by omega)).toNat := by rw [byteAt_lt hl]; simp [ByteArray.getElem_extract]
  have hE64 := ext_ext (s := s) (a := i) (e := e)
  have HE := Lib.hid he
  obtain ⟨t, ht⟩ : ∃ t, s.extract i e = t := ⟨_, rfl⟩
  have h0 : 0 < t.size := by rw [← ht]; omega
  have HU : Hid (up ((t[0]'h0).toNat : Int) = up (byteAt s i)) := Lib.hid (by rw [hbz]; subst ht; rfl)
  have hE : (i : Int) + (t.size : Int) = (e : Int) := by rw [← ht, hts]; omega
  have HT := Lib.hid ht
  have hX64 : 64 < t.size → t.extract 0 64 = s.extract i (i + 64) := fun h => by rw [← ht]; exact hE64 (by rw [← ht] at h; omega)
  have HX := Lib.hid hX64
  have hts2 : t.size = e - i := by rw [← ht]; exact hts
  have HTS := Lib.hid hts2
  clear ht hbz hE64 hts hX64 hts2 he
  have HUP := Lib.hid hu
  clear hu
  rw [← HE.out] at hend
  have heq : e = s.size := by omega
  have q1 : ((e : Int) == (s.size : Int)) = true := by simp; omega
  have q2 : (e == s.size) = true := by simp; omega
  clear heq hend
  cases hn : nmR s i nil8 i with
  | ok y g =>
    have HNM := Lib.hid (show nmR s i ⟨#[]⟩ i = _ from hn)
    clear hn
    go_enter Tryz.func49, Tryz.ntmps49
    go_wp2_with (first | (go_at_call 41; refine (run_wp hS0 hz hi).mono ?_; rw [← HE.out, HT.out]; rintro r w2 ⟨rfl, hO2⟩; have hS2 := hS0.keep hO2; have hQ2 := hQ0.only hO2 (fun _ hc => hc.elim); have c0 := hS2.src'; have c4 := hS2.hat_p) | (go_at_call 86; refine (isUpper_any _ _).mono ?_; rw [HU.out, HUP.out]; rintro r w3 ⟨rfl, rfl⟩) | (go_at_call 50; refine (name_p hQ2 hWb hS2 _ i hz (Nat.le_refl i) hi).mono ?_; rw [HNM.out]; rintro r w7 ⟨rfl, hS7, hO7⟩; have hO8 := hO2.lift.trans hO7; have hR7 := hR.only hO8 (by omega); have d0 := hR7.c0; have d1 := hR7.c1; have d2 := hR7.c2; have d3 := hR7.c3; have d4 := hR7.c4; have d5 := hR7.c5; have d6 := hR7.c6; have z0 := hR7.fz 0; have z1 := hR7.fz 1; have z2 := hR7.fz 2; have z3 := hR7.fz 3; have z4 := hR7.fz 4; have z5 := hR7.fz 5; have z6 := hR7.fz 6))
    exact bodyPost_ret (v := .tuple #[tkC y, .bool true]) (by simp [results, Tryz.results49, go_sem, d0, d1, d2, d3, d4, d5, d6]) rfl (tok_ok rfl rfl hSz hS7 hO8 (Only.set7 _ _ _ _ _ _ _ _ _))
  | bad g =>
    have HNM := Lib.hid (show nmR s i ⟨#[]⟩ i = _ from hn)
    clear hn
    go_enter Tryz.func49, Tryz.ntmps49
    go_wp2_with (first | (go_at_call 41; refine (run_wp hS0 hz hi).mono ?_; rw [← HE.out, HT.out]; rintro r w2 ⟨rfl, hO2⟩; have hS2 := hS0.keep hO2; have hQ2 := hQ0.only hO2 (fun _ hc => hc.elim); have c0 := hS2.src'; have c4 := hS2.hat_p) | (go_at_call 86; refine (isUpper_any _ _).mono ?_; rw [HU.out, HUP.out]; rintro r w3 ⟨rfl, rfl⟩) | (go_at_call 50; refine (name_p hQ2 hWb hS2 _ i hz (Nat.le_refl i) hi).mono ?_; rw [HNM.out]; rintro r w7 ⟨rfl, hS7, hO7⟩; have hO8 := hO2.lift.trans hO7; have hR7 := hR.only hO8 (by omega); have d0 := hR7.c0; have d1 := hR7.c1; have d2 := hR7.c2; have d3 := hR7.c3; have d4 := hR7.c4; have d5 := hR7.c5; have d6 := hR7.c6; have z0 := hR7.fz 0; have z1 := hR7.fz 1; have z2 := hR7.fz 2; have z3 := hR7.fz 3; have z4 := hR7.fz 4; have z5 := hR7.fz 5; have z6 := hR7.fz 6))
    exact bodyPost_ret (v := .tuple #[tkZ, .bool false]) (by simp [results, Tryz.results49, go_sem, d0, d1, d2, d3, d4, d5, d6]) rfl (tok_bad rfl rfl hSz hS7 hO8 (Only.set7 _ _ _ _ _ _ _ _ _))
set_option maxRecDepth 100000 in
set_option maxHeartbeats 2000000 in
theorem id_c (hQ : Q W w) (hWb : W.heap.size ≤ b) (hS : Scn w b s (pos s i) (pos s i) tk F) (hz : s.size ≤ 65536) (hst : stt (byteAt s i) = true) (hu : up (byteAt s i) = true) (hend : rE wd s i < s.size) (hb : ¬ byteAt s (rE wd s i) = 46) :
    Calls Tryz.prog 49 #[.pointer (some ⟨b, 0, none⟩)] w (TokPost w b s i tk F (nmR s i nil8 i)) := by
  have hSz := hS.lt
  have hR := RB.new w
  have hS0 := hS.alloc (.cells #[.int .i64 0, .string ⟨#[]⟩, .string ⟨#[]⟩, .int .i64 0, .bool false, .int .i64 0, .int .i64 0] 38)
  have hQ0 : Q W (w.alloc (.cells #[.int .i64 0, .string ⟨#[]⟩, .string ⟨#[]⟩, .int .i64 0, .bool false, .int .i64 0, .int .i64 0] 38)) := hQ.below ((Below.refl _ _).alloc (Nat.le_refl _) _)
  have hl := stt_pos hst
  have hi : i ≤ s.size := Nat.le_of_lt hl
  have he0 := rE_lt hl (wd_of_stt hst)
  have he1 := (rE_end wd hi).hi
  clear hst
  obtain ⟨e, he⟩ : ∃ e, e = rE wd s i := ⟨_, rfl⟩
  rw [← he] at he0 he1
  have hts := ext_size (s := s) (Nat.le_of_lt he0) he1
  have hbz : byteAt s i = ((s.extract i e)[0]'(by omega)).toNat := by rw [byteAt_lt hl]; simp [ByteArray.getElem_extract]
  have hE64 := ext_ext (s := s) (a := i) (e := e)
  have HE := Lib.hid he
  obtain ⟨t, ht⟩ : ∃ t, s.extract i e = t := ⟨_, rfl⟩
  have h0 : 0 < t.size := by rw [← ht]; omega
  have HU : Hid (up ((t[0]'h0).toNat : Int) = up (byteAt s i)) := Lib.hid (by rw [hbz]; subst ht; rfl)
  have hE : (i : Int) + (t.size : Int) = (e : Int) := by rw [← ht, hts]; omega
  have HT := Lib.hid ht
  have hX64 : 64 < t.size → t.extract 0 64 = s.extract i (i + 64) := fun h => by rw [← ht]; exact hE64 (by rw [← ht] at h; omega)
  have HX := Lib.hid hX64
  have hts2 : t.size = e - i := by rw [← ht]; exact hts
  have HTS := Lib.hid hts2
  clear ht hbz hE64 hts hX64 hts2 he
  have HUP := Lib.hid hu
  clear hu
  rw [← HE.out] at hend hb
  have q1 : ((e : Int) == (s.size : Int)) = false := by simp; omega
  have q2 : (e == s.size) = false := by simp; omega
  rw [byteAt_lt hend] at hb
  have q3 : (((s[e]'hend).toNat : Int) != 46) = true := by simp; omega
  clear hb
  cases hn : nmR s i nil8 i with
  | ok y g =>
    have HNM := Lib.hid (show nmR s i ⟨#[]⟩ i = _ from hn)
    clear hn
    go_enter Tryz.func49, Tryz.ntmps49
    go_wp2_with (first | (go_at_call 41; refine (run_wp hS0 hz hi).mono ?_; rw [← HE.out, HT.out]; rintro r w2 ⟨rfl, hO2⟩; have hS2 := hS0.keep hO2; have hQ2 := hQ0.only hO2 (fun _ hc => hc.elim); have c0 := hS2.src'; have c4 := hS2.hat_p) | (go_at_call 86; refine (isUpper_any _ _).mono ?_; rw [HU.out, HUP.out]; rintro r w3 ⟨rfl, rfl⟩) | (go_at_call 50; refine (name_p hQ2 hWb hS2 _ i hz (Nat.le_refl i) hi).mono ?_; rw [HNM.out]; rintro r w7 ⟨rfl, hS7, hO7⟩; have hO8 := hO2.lift.trans hO7; have hR7 := hR.only hO8 (by omega); have d0 := hR7.c0; have d1 := hR7.c1; have d2 := hR7.c2; have d3 := hR7.c3; have d4 := hR7.c4; have d5 := hR7.c5; have d6 := hR7.c6; have z0 := hR7.fz 0; have z1 := hR7.fz 1; have z2 := hR7.fz 2; have z3 := hR7.fz 3; have z4 := hR7.fz 4; have z5 := hR7.fz 5; have z6 := hR7.fz 6))
    exact bodyPost_ret (v := .tuple #[tkC y, .bool true]) (by simp [results, Tryz.results49, go_sem, d0, d1, d2, d3, d4, d5, d6]) rfl (tok_ok rfl rfl hSz hS7 hO8 (Only.set7 _ _ _ _ _ _ _ _ _))
  | bad g =>
    have HNM := Lib.hid (show nmR s i ⟨#[]⟩ i = _ from hn)
    clear hn
    go_enter Tryz.func49, Tryz.ntmps49
    go_wp2_with (first | (go_at_call 41; refine (run_wp hS0 hz hi).mono ?_; rw [← HE.out, HT.out]; rintro r w2 ⟨rfl, hO2⟩; have hS2 := hS0.keep hO2; have hQ2 := hQ0.only hO2 (fun _ hc => hc.elim); have c0 := hS2.src'; have c4 := hS2.hat_p) | (go_at_call 86; refine (isUpper_any _ _).mono ?_; rw [HU.out, HUP.out]; rintro r w3 ⟨rfl, rfl⟩) | (go_at_call 50; refine (name_p hQ2 hWb hS2 _ i hz (Nat.le_refl i) hi).mono ?_; rw [HNM.out]; rintro r w7 ⟨rfl, hS7, hO7⟩; have hO8 := hO2.lift.trans hO7; have hR7 := hR.only hO8 (by omega); have d0 := hR7.c0; have d1 := hR7.c1; have d2 := hR7.c2; have d3 := hR7.c3; have d4 := hR7.c4; have d5 := hR7.c5; have d6 := hR7.c6; have z0 := hR7.fz 0; have z1 := hR7.fz 1; have z2 := hR7.fz 2; have z3 := hR7.fz 3; have z4 := hR7.fz 4; have z5 := hR7.fz 5; have z6 := hR7.fz 6))
    exact bodyPost_ret (v := .tuple #[tkZ, .bool false]) (by simp [results, Tryz.results49, go_sem, d0, d1, d2, d3, d4, d5, d6]) rfl (tok_bad rfl rfl hSz hS7 hO8 (Only.set7 _ _ _ _ _ _ _ _ _))
set_option maxRecDepth 100000 in
set_option maxHeartbeats 2000000 in
theorem id_d (hQ : Q W w) (hWb : W.heap.size ≤ b) (hS : Scn w b s (pos s i) (pos s i) tk F) (hz : s.size ≤ 65536) (hst : stt (byteAt s i) = true) (hu : up (byteAt s i) = true) (hend : rE wd s i < s.size) (hb : byteAt s (rE wd s i) = 46) (hq : qok (s.extract (rE wd s i + 1) (nE s (rE wd s i + 1))) = false) :
    Calls Tryz.prog 49 #[.pointer (some ⟨b, 0, none⟩)] w (TokPost w b s i tk F (nmR s i nil8 i)) := by
  have hSz := hS.lt
  have hR := RB.new w
  have hS0 := hS.alloc (.cells #[.int .i64 0, .string ⟨#[]⟩, .string ⟨#[]⟩, .int .i64 0, .bool false, .int .i64 0, .int .i64 0] 38)
  have hQ0 : Q W (w.alloc (.cells #[.int .i64 0, .string ⟨#[]⟩, .string ⟨#[]⟩, .int .i64 0, .bool false, .int .i64 0, .int .i64 0] 38)) := hQ.below ((Below.refl _ _).alloc (Nat.le_refl _) _)
  have hl := stt_pos hst
  have hi : i ≤ s.size := Nat.le_of_lt hl
  have he0 := rE_lt hl (wd_of_stt hst)
  have he1 := (rE_end wd hi).hi
  clear hst
  obtain ⟨e, he⟩ : ∃ e, e = rE wd s i := ⟨_, rfl⟩
  rw [← he] at he0 he1
  have hts := ext_size (s := s) (Nat.le_of_lt he0) he1
  have hbz : byteAt s i = ((s.extract i e)[0]'(by omega)).toNat := by rw [byteAt_lt hl]; simp [ByteArray.getElem_extract]
  have hE64 := ext_ext (s := s) (a := i) (e := e)
  have HE := Lib.hid he
  obtain ⟨t, ht⟩ : ∃ t, s.extract i e = t := ⟨_, rfl⟩
  have h0 : 0 < t.size := by rw [← ht]; omega
  have HU : Hid (up ((t[0]'h0).toNat : Int) = up (byteAt s i)) := Lib.hid (by rw [hbz]; subst ht; rfl)
  have hE : (i : Int) + (t.size : Int) = (e : Int) := by rw [← ht, hts]; omega
  have HT := Lib.hid ht
  have hX64 : 64 < t.size → t.extract 0 64 = s.extract i (i + 64) := fun h => by rw [← ht]; exact hE64 (by rw [← ht] at h; omega)
  have HX := Lib.hid hX64
  have hts2 : t.size = e - i := by rw [← ht]; exact hts
  have HTS := Lib.hid hts2
  clear ht hbz hE64 hts hX64 hts2 he
  have HUP := Lib.hid hu
  clear hu
  rw [← HE.out] at hend hb
  have q1 : ((e : Int) == (s.size : Int)) = false := by simp; omega
  have q2 : (e == s.size) = false := by simp; omega
  rw [byteAt_lt hend] at hb
  have q3 : (((s[e]'hend).toNat : Int) != 46) = false := by rw [hb]; rfl
  rw [← HE.out] at hq
  obtain ⟨f, hf⟩ : ∃ f, f = e + 1 := ⟨_, rfl⟩
  rw [← hf] at hq
  have hf1 : f ≤ s.size := by omega
  have hef : i ≤ f := by omega
  have hF : (e : Int) + 1 = (f : Int) := by omega
  obtain ⟨hn1, hn2⟩ := nE_bd hf1
  have hz2' := ext_size (s := s) hn1 hn2
  obtain ⟨t2, ht2⟩ : ∃ t2, s.extract f (nE s f) = t2 := ⟨_, rfl⟩
  rw [ht2] at hq hz2'
  have hz2 : t2.size ≤ 65536 := by omega
  have HQV := Lib.hid hq
  have HT2 := Lib.hid ht2
  have HFE := Lib.hid hf
  clear hb hq hf hn1 hn2 hz2' ht2
  cases hn : nmR s i nil8 i with
  | ok y g =>
    have HNM := Lib.hid (show nmR s i ⟨#[]⟩ i = _ from hn)
    clear hn
    go_enter Tryz.func49, Tryz.ntmps49
    go_wp2_with (first | (go_at_call 41; refine (run_wp hS0 hz hi).mono ?_; rw [← HE.out, HT.out]; rintro r w2 ⟨rfl, hO2⟩; have hS2 := hS0.keep hO2; have hQ2 := hQ0.only hO2 (fun _ hc => hc.elim); have c0 := hS2.src'; have c4 := hS2.hat_p) | (go_at_call 86; refine (isUpper_any _ _).mono ?_; rw [HU.out, HUP.out]; rintro r w3 ⟨rfl, rfl⟩) | (go_at_call 92; refine (NameAt_p _ f _ hz hf1).mono ?_; rw [HT2.out]; rintro r w4 ⟨rfl, hO4⟩; have hS4 := hS2.keep hO4; have hQ4 := hQ2.only hO4 (fun _ hc => hc.elim)) | (go_at_call 91; refine (isQualified_q _ false _ _ hz2 HQV.out hQ4).mono ?_; rintro r w5 ⟨rfl, hQ5, hO5⟩; have hS5 := hS4.keep hO5; have c5 := hS5.hat_p) | (go_at_call 50; refine (name_p hQ5 hWb hS5 _ i hz (Nat.le_refl i) hi).mono ?_; rw [HNM.out]; rintro r w7 ⟨rfl, hS7, hO7⟩; have hO8 := ((hO2.lift.trans hO4.lift).trans hO5.lift).trans hO7; have hR7 := hR.only hO8 (by omega); have d0 := hR7.c0; have d1 := hR7.c1; have d2 := hR7.c2; have d3 := hR7.c3; have d4 := hR7.c4; have d5 := hR7.c5; have d6 := hR7.c6; have z0 := hR7.fz 0; have z1 := hR7.fz 1; have z2 := hR7.fz 2; have z3 := hR7.fz 3; have z4 := hR7.fz 4; have z5 := hR7.fz 5; have z6 := hR7.fz 6))
    exact bodyPost_ret (v := .tuple #[tkC y, .bool true]) (by simp [results, Tryz.results49, go_sem, d0, d1, d2, d3, d4, d5, d6]) rfl (tok_ok rfl rfl hSz hS7 hO8 (Only.set7 _ _ _ _ _ _ _ _ _))
  | bad g =>
    have HNM := Lib.hid (show nmR s i ⟨#[]⟩ i = _ from hn)
    clear hn
    go_enter Tryz.func49, Tryz.ntmps49
    go_wp2_with (first | (go_at_call 41; refine (run_wp hS0 hz hi).mono ?_; rw [← HE.out, HT.out]; rintro r w2 ⟨rfl, hO2⟩; have hS2 := hS0.keep hO2; have hQ2 := hQ0.only hO2 (fun _ hc => hc.elim); have c0 := hS2.src'; have c4 := hS2.hat_p) | (go_at_call 86; refine (isUpper_any _ _).mono ?_; rw [HU.out, HUP.out]; rintro r w3 ⟨rfl, rfl⟩) | (go_at_call 92; refine (NameAt_p _ f _ hz hf1).mono ?_; rw [HT2.out]; rintro r w4 ⟨rfl, hO4⟩; have hS4 := hS2.keep hO4; have hQ4 := hQ2.only hO4 (fun _ hc => hc.elim)) | (go_at_call 91; refine (isQualified_q _ false _ _ hz2 HQV.out hQ4).mono ?_; rintro r w5 ⟨rfl, hQ5, hO5⟩; have hS5 := hS4.keep hO5; have c5 := hS5.hat_p) | (go_at_call 50; refine (name_p hQ5 hWb hS5 _ i hz (Nat.le_refl i) hi).mono ?_; rw [HNM.out]; rintro r w7 ⟨rfl, hS7, hO7⟩; have hO8 := ((hO2.lift.trans hO4.lift).trans hO5.lift).trans hO7; have hR7 := hR.only hO8 (by omega); have d0 := hR7.c0; have d1 := hR7.c1; have d2 := hR7.c2; have d3 := hR7.c3; have d4 := hR7.c4; have d5 := hR7.c5; have d6 := hR7.c6; have z0 := hR7.fz 0; have z1 := hR7.fz 1; have z2 := hR7.fz 2; have z3 := hR7.fz 3; have z4 := hR7.fz 4; have z5 := hR7.fz 5; have z6 := hR7.fz 6))
    exact bodyPost_ret (v := .tuple #[tkZ, .bool false]) (by simp [results, Tryz.results49, go_sem, d0, d1, d2, d3, d4, d5, d6]) rfl (tok_bad rfl rfl hSz hS7 hO8 (Only.set7 _ _ _ _ _ _ _ _ _))
set_option maxRecDepth 100000 in
set_option maxHeartbeats 2000000 in
theorem id_f (hQ : Q W w) (hWb : W.heap.size ≤ b) (hS : Scn w b s (pos s i) (pos s i) tk F) (hz : s.size ≤ 65536) (hst : stt (byteAt s i) = true) (hu : up (byteAt s i) = true) (hend : rE wd s i < s.size) (hb : byteAt s (rE wd s i) = 46) (hq : qok (s.extract (rE wd s i + 1) (nE s (rE wd s i + 1))) = true) (hlong : ¬ 64 < rE wd s i - i) :
    Calls Tryz.prog 49 #[.pointer (some ⟨b, 0, none⟩)] w (TokPost w b s i tk F (nmR s i (s.extract i (rE wd s i)) (rE wd s i + 1))) := by
  have hSz := hS.lt
  have hR := RB.new w
  have hS0 := hS.alloc (.cells #[.int .i64 0, .string ⟨#[]⟩, .string ⟨#[]⟩, .int .i64 0, .bool false, .int .i64 0, .int .i64 0] 38)
  have hQ0 : Q W (w.alloc (.cells #[.int .i64 0, .string ⟨#[]⟩, .string ⟨#[]⟩, .int .i64 0, .bool false, .int .i64 0, .int .i64 0] 38)) := hQ.below ((Below.refl _ _).alloc (Nat.le_refl _) _)
  have hl := stt_pos hst
  have hi : i ≤ s.size := Nat.le_of_lt hl
  have he0 := rE_lt hl (wd_of_stt hst)
  have he1 := (rE_end wd hi).hi
  clear hst
  obtain ⟨e, he⟩ : ∃ e, e = rE wd s i := ⟨_, rfl⟩
  rw [← he] at he0 he1
  have hts := ext_size (s := s) (Nat.le_of_lt he0) he1
  have hbz : byteAt s i = ((s.extract i e)[0]'(by omega)).toNat := by rw [byteAt_lt hl]; simp [ByteArray.getElem_extract]
  have hE64 := ext_ext (s := s) (a := i) (e := e)
  have HE := Lib.hid he
  obtain ⟨t, ht⟩ : ∃ t, s.extract i e = t := ⟨_, rfl⟩
  have h0 : 0 < t.size := by rw [← ht]; omega
  have HU : Hid (up ((t[0]'h0).toNat : Int) = up (byteAt s i)) := Lib.hid (by rw [hbz]; subst ht; rfl)
  have hE : (i : Int) + (t.size : Int) = (e : Int) := by rw [← ht, hts]; omega
  have HT := Lib.hid ht
  have hX64 : 64 < t.size → t.extract 0 64 = s.extract i (i + 64) := fun h => by rw [← ht]; exact hE64 (by rw [← ht] at h; omega)
  have HX := Lib.hid hX64
  have hts2 : t.size = e - i := by rw [← ht]; exact hts
  have HTS := Lib.hid hts2
  clear ht hbz hE64 hts hX64 hts2 he
  have HUP := Lib.hid hu
  clear hu
  rw [← HE.out] at hend hb
  have q1 : ((e : Int) == (s.size : Int)) = false := by simp; omega
  have q2 : (e == s.size) = false := by simp; omega
  rw [byteAt_lt hend] at hb
  have q3 : (((s[e]'hend).toNat : Int) != 46) = false := by rw [hb]; rfl
  rw [← HE.out] at hq
  obtain ⟨f, hf⟩ : ∃ f, f = e + 1 := ⟨_, rfl⟩
  rw [← hf] at hq
  have hf1 : f ≤ s.size := by omega
  have hef : i ≤ f := by omega
  have hF : (e : Int) + 1 = (f : Int) := by omega
  obtain ⟨hn1, hn2⟩ := nE_bd hf1
  have hz2' := ext_size (s := s) hn1 hn2
  obtain ⟨t2, ht2⟩ : ∃ t2, s.extract f (nE s f) = t2 := ⟨_, rfl⟩
  rw [ht2] at hq hz2'
  have hz2 : t2.size ≤ 65536 := by omega
  have HQV := Lib.hid hq
  have HT2 := Lib.hid ht2
  have HFE := Lib.hid hf
  clear hb hq hf hn1 hn2 hz2' ht2
  rw [← HE.out] at hlong
  have hlong2 : t.size ≤ 64 := by have := HTS.out; omega
  clear hlong
  cases hn : nmR s i (s.extract i (rE wd s i)) (rE wd s i + 1) with
  | ok y g =>
    have HNM := Lib.hid (show nmR s i t f = .ok y g by rw [← HT.out, HFE.out, HE.out]; exact hn)
    clear hn
    go_enter Tryz.func49, Tryz.ntmps49
    go_wp2_with (first | (go_at_call 41; refine (run_wp hS0 hz hi).mono ?_; rw [← HE.out, HT.out]; rintro r w2 ⟨rfl, hO2⟩; have hS2 := hS0.keep hO2; have hQ2 := hQ0.only hO2 (fun _ hc => hc.elim); have c0 := hS2.src'; have c4 := hS2.hat_p) | (go_at_call 86; refine (isUpper_any _ _).mono ?_; rw [HU.out, HUP.out]; rintro r w3 ⟨rfl, rfl⟩) | (go_at_call 92; refine (NameAt_p _ f _ hz hf1).mono ?_; rw [HT2.out]; rintro r w4 ⟨rfl, hO4⟩; have hS4 := hS2.keep hO4; have hQ4 := hQ2.only hO4 (fun _ hc => hc.elim)) | (go_at_call 91; refine (isQualified_q _ true _ _ hz2 HQV.out hQ4).mono ?_; rintro r w5 ⟨rfl, hQ5, hO5⟩; have hS5 := hS4.keep hO5; have c5 := hS5.hat_p) | (go_at_call 50; refine (name_p hQ5 hWb hS5 _ f hz hef hf1).mono ?_; rw [HNM.out]; rintro r w7 ⟨rfl, hS7, hO7⟩; have hO8 := ((hO2.lift.trans hO4.lift).trans hO5.lift).trans hO7; have hR7 := hR.only hO8 (by omega); have d0 := hR7.c0; have d1 := hR7.c1; have d2 := hR7.c2; have d3 := hR7.c3; have d4 := hR7.c4; have d5 := hR7.c5; have d6 := hR7.c6; have z0 := hR7.fz 0; have z1 := hR7.fz 1; have z2 := hR7.fz 2; have z3 := hR7.fz 3; have z4 := hR7.fz 4; have z5 := hR7.fz 5; have z6 := hR7.fz 6))
    exact bodyPost_ret (v := .tuple #[tkC y, .bool true]) (by simp [results, Tryz.results49, go_sem, d0, d1, d2, d3, d4, d5, d6]) rfl (tok_ok rfl rfl hSz hS7 hO8 (Only.set7 _ _ _ _ _ _ _ _ _))
  | bad g =>
    have HNM := Lib.hid (show nmR s i t f = .bad g by rw [← HT.out, HFE.out, HE.out]; exact hn)
    clear hn
    go_enter Tryz.func49, Tryz.ntmps49
    go_wp2_with (first | (go_at_call 41; refine (run_wp hS0 hz hi).mono ?_; rw [← HE.out, HT.out]; rintro r w2 ⟨rfl, hO2⟩; have hS2 := hS0.keep hO2; have hQ2 := hQ0.only hO2 (fun _ hc => hc.elim); have c0 := hS2.src'; have c4 := hS2.hat_p) | (go_at_call 86; refine (isUpper_any _ _).mono ?_; rw [HU.out, HUP.out]; rintro r w3 ⟨rfl, rfl⟩) | (go_at_call 92; refine (NameAt_p _ f _ hz hf1).mono ?_; rw [HT2.out]; rintro r w4 ⟨rfl, hO4⟩; have hS4 := hS2.keep hO4; have hQ4 := hQ2.only hO4 (fun _ hc => hc.elim)) | (go_at_call 91; refine (isQualified_q _ true _ _ hz2 HQV.out hQ4).mono ?_; rintro r w5 ⟨rfl, hQ5, hO5⟩; have hS5 := hS4.keep hO5; have c5 := hS5.hat_p) | (go_at_call 50; refine (name_p hQ5 hWb hS5 _ f hz hef hf1).mono ?_; rw [HNM.out]; rintro r w7 ⟨rfl, hS7, hO7⟩; have hO8 := ((hO2.lift.trans hO4.lift).trans hO5.lift).trans hO7; have hR7 := hR.only hO8 (by omega); have d0 := hR7.c0; have d1 := hR7.c1; have d2 := hR7.c2; have d3 := hR7.c3; have d4 := hR7.c4; have d5 := hR7.c5; have d6 := hR7.c6; have z0 := hR7.fz 0; have z1 := hR7.fz 1; have z2 := hR7.fz 2; have z3 := hR7.fz 3; have z4 := hR7.fz 4; have z5 := hR7.fz 5; have z6 := hR7.fz 6))
    exact bodyPost_ret (v := .tuple #[tkZ, .bool false]) (by simp [results, Tryz.results49, go_sem, d0, d1, d2, d3, d4, d5, d6]) rfl (tok_bad rfl rfl hSz hS7 hO8 (Only.set7 _ _ _ _ _ _ _ _ _))
set_option maxRecDepth 100000 in
set_option maxHeartbeats 2000000 in
theorem id_e (hQ : Q W w) (hWb : W.heap.size ≤ b) (hS : Scn w b s (pos s i) (pos s i) tk F) (hz : s.size ≤ 65536) (hst : stt (byteAt s i) = true) (hu : up (byteAt s i) = true) (hend : rE wd s i < s.size) (hb : byteAt s (rE wd s i) = 46) (hq : qok (s.extract (rE wd s i + 1) (nE s (rE wd s i + 1))) = true) (hlong : 64 < rE wd s i - i) :
    Calls Tryz.prog 49 #[.pointer (some ⟨b, 0, none⟩)] w (TokPost w b s i tk F (.bad (flt s 3 (s.extract i (i + 64)) i))) := by
  have hSz := hS.lt
  have hR := RB.new w
  have hS0 := hS.alloc (.cells #[.int .i64 0, .string ⟨#[]⟩, .string ⟨#[]⟩, .int .i64 0, .bool false, .int .i64 0, .int .i64 0] 38)
  have hQ0 : Q W (w.alloc (.cells #[.int .i64 0, .string ⟨#[]⟩, .string ⟨#[]⟩, .int .i64 0, .bool false, .int .i64 0, .int .i64 0] 38)) := hQ.below ((Below.refl _ _).alloc (Nat.le_refl _) _)
  have hl := stt_pos hst
  have hi : i ≤ s.size := Nat.le_of_lt hl
  have he0 := rE_lt hl (wd_of_stt hst)
  have he1 := (rE_end wd hi).hi
  clear hst
  obtain ⟨e, he⟩ : ∃ e, e = rE wd s i := ⟨_, rfl⟩
  rw [← he] at he0 he1
  have hts := ext_size (s := s) (Nat.le_of_lt he0) he1
  have hbz : byteAt s i = ((s.extract i e)[0]'(by omega)).toNat := by rw [byteAt_lt hl]; simp [ByteArray.getElem_extract]
  have hE64 := ext_ext (s := s) (a := i) (e := e)
  have HE := Lib.hid he
  obtain ⟨t, ht⟩ : ∃ t, s.extract i e = t := ⟨_, rfl⟩
  have h0 : 0 < t.size := by rw [← ht]; omega
  have HU : Hid (up ((t[0]'h0).toNat : Int) = up (byteAt s i)) := Lib.hid (by rw [hbz]; subst ht; rfl)
  have hE : (i : Int) + (t.size : Int) = (e : Int) := by rw [← ht, hts]; omega
  have HT := Lib.hid ht
  have hX64 : 64 < t.size → t.extract 0 64 = s.extract i (i + 64) := fun h => by rw [← ht]; exact hE64 (by rw [← ht] at h; omega)
  have HX := Lib.hid hX64
  have hts2 : t.size = e - i := by rw [← ht]; exact hts
  have HTS := Lib.hid hts2
  clear ht hbz hE64 hts hX64 hts2 he
  have HUP := Lib.hid hu
  clear hu
  rw [← HE.out] at hend hb
  have q1 : ((e : Int) == (s.size : Int)) = false := by simp; omega
  have q2 : (e == s.size) = false := by simp; omega
  rw [byteAt_lt hend] at hb
  have q3 : (((s[e]'hend).toNat : Int) != 46) = false := by rw [hb]; rfl
  rw [← HE.out] at hq
  obtain ⟨f, hf⟩ : ∃ f, f = e + 1 := ⟨_, rfl⟩
  rw [← hf] at hq
  have hf1 : f ≤ s.size := by omega
  have hef : i ≤ f := by omega
  have hF : (e : Int) + 1 = (f : Int) := by omega
  obtain ⟨hn1, hn2⟩ := nE_bd hf1
  have hz2' := ext_size (s := s) hn1 hn2
  obtain ⟨t2, ht2⟩ : ∃ t2, s.extract f (nE s f) = t2 := ⟨_, rfl⟩
  rw [ht2] at hq hz2'
  have hz2 : t2.size ≤ 65536 := by omega
  have HQV := Lib.hid hq
  have HT2 := Lib.hid ht2
  have HFE := Lib.hid hf
  clear hb hq hf hn1 hn2 hz2' ht2
  rw [← HE.out] at hlong
  have hlong2 : 64 < t.size := by have := HTS.out; omega
  clear hlong
  have HX2 := Lib.hid (HX.out hlong2)
  go_enter Tryz.func49, Tryz.ntmps49
  go_wp2_with (first | (go_at_call 41; refine (run_wp hS0 hz hi).mono ?_; rw [← HE.out, HT.out]; rintro r w2 ⟨rfl, hO2⟩; have hS2 := hS0.keep hO2; have hQ2 := hQ0.only hO2 (fun _ hc => hc.elim); have c0 := hS2.src'; have c4 := hS2.hat_p) | (go_at_call 86; refine (isUpper_any _ _).mono ?_; rw [HU.out, HUP.out]; rintro r w3 ⟨rfl, rfl⟩) | (go_at_call 92; refine (NameAt_p _ f _ hz hf1).mono ?_; rw [HT2.out]; rintro r w4 ⟨rfl, hO4⟩; have hS4 := hS2.keep hO4; have hQ4 := hQ2.only hO4 (fun _ hc => hc.elim)) | (go_at_call 91; refine (isQualified_q _ true _ _ hz2 HQV.out hQ4).mono ?_; rintro r w5 ⟨rfl, hQ5, hO5⟩; have hS5 := hS4.keep hO5; have c5 := hS5.hat_p) | (go_at_call 89; refine (fail_p hS5 3 _).mono ?_; rintro r w7 ⟨rfl, hS7, hO7⟩; have hO8 := ((hO2.lift.trans hO4.lift).trans hO5.lift).trans hO7; have hR7 := hR.only hO8 (by omega); have d0 := hR7.c0; have d1 := hR7.c1; have d2 := hR7.c2; have d3 := hR7.c3; have d4 := hR7.c4; have d5 := hR7.c5; have d6 := hR7.c6; have z0 := hR7.fz 0; have z1 := hR7.fz 1; have z2 := hR7.fz 2; have z3 := hR7.fz 3; have z4 := hR7.fz 4; have z5 := hR7.fz 5; have z6 := hR7.fz 6))
  exact bodyPost_ret (v := .tuple #[tkZ, .bool false]) (by simp [results, Tryz.results49, go_sem, d0, d1, d2, d3, d4, d5, d6]) rfl (tok_bad rfl rfl hSz (by rw [← HX2.out]; exact hS7) hO8 (Only.set7 _ _ _ _ _ _ _ _ _))
theorem identifier_p (hQ : Q W w) (hWb : W.heap.size ≤ b) (hS : Scn w b s (pos s i) (pos s i) tk F) (hz : s.size ≤ 65536) (hst : stt (byteAt s i) = true) :
    Calls Tryz.prog 49 #[.pointer (some ⟨b, 0, none⟩)] w (TokPost w b s i tk F (idR s i)) := by
  cases hu : up (byteAt s i)
  · rw [idR_no (by rw [hu]; rfl)]; exact id_a hQ hWb hS hz hst hu
  by_cases hend : rE wd s i < s.size
  · by_cases hb : byteAt s (rE wd s i) = 46
    · cases hq : qok (s.extract (rE wd s i + 1) (nE s (rE wd s i + 1)))
      · rw [idR_no (by rw [hq]; simp)]; exact id_d hQ hWb hS hz hst hu hend hb hq
      · by_cases hlong : 64 < rE wd s i - i
        · rw [show idR s i = .bad (flt s 3 (s.extract i (i + 64)) i) from by unfold idR; rw [hu, hq, decide_eq_true hend, decide_eq_true hb]; simp [hlong]]
          exact id_e hQ hWb hS hz hst hu hend hb hq hlong
        · rw [show idR s i = nmR s i (s.extract i (rE wd s i)) (rE wd s i + 1) from by unfold idR; rw [hu, hq, decide_eq_true hend, decide_eq_true hb]; simp [hlong]]
          exact id_f hQ hWb hS hz hst hu hend hb hq hlong
    · rw [idR_no (by rw [decide_eq_false hb]; simp)]; exact id_c hQ hWb hS hz hst hu hend hb
  · rw [idR_no (by rw [decide_eq_false hend]; simp)]; exact id_b hQ hWb hS hz hst hu hend
end
end Go.Proofs.YtelichlplblboaaGreatDoor
namespace Go.Proofs.YtelichlplblboaaGreatDoor
open Go.RowKit Go.Maps
section
variable {W w : World} {b : Nat} {s : ByteArray} {i0 i : Nat} {tk : Value} {F : Flt}
/-- What a unit that is no token does. -/
def SkPost (w : World) (b : Nat) (s : ByteArray) (i0 : Nat) (tk : Value) (F : Flt) (o : RR Unit) (r : Ending) (w' : World) : Prop :=
  match o with
  | .ok _ e => r = .returned (.bool true) ∧ Scn w' b s (pos s i0) (pos s e) tk F ∧ Only (· = b) w w'
  | .bad f => r = .returned (.bool false) ∧ Bad b s i0 tk f w' ∧ Only (· = b) w w'
theorem sk_ok {w' : World} {e : Nat} {o : RR Unit} {r : Ending} (h : o = .ok () e) (hr : r = .returned (.bool true)) (hS : Scn w' b s (pos s i0) (pos s e) tk F) (hO : Only (· = b) w w') : SkPost w b s i0 tk F o r w' := by
  subst h; exact ⟨hr, hS, hO⟩
theorem sk_bad {w' : World} {f : Flt} {o : RR Unit} {r : Ending} (h : o = .bad f) (hr : r = .returned (.bool false)) (hS : Bad b s i0 tk f w') (hO : Only (· = b) w w') : SkPost w b s i0 tk F o r w' := by
  subst h; exact ⟨hr, hS, hO⟩
set_option maxRecDepth 100000 in
set_option maxHeartbeats 2000000 in
theorem line_p (hS : Scn w b s (pos s i) (pos s i) tk F) (hz : s.size ≤ 65536) (hi : i ≤ s.size) :
    Calls Tryz.prog 48 #[.pointer (some ⟨b, 0, none⟩)] w (SkPost w b s i tk F (linR s i)) := by
  go_enter Tryz.func48, Tryz.ntmps48
  go_wp2
  go_loopg [] (s.size - i) (fun k wr => ∃ (j : Nat), Hid (linF s k j = linR s i) ∧ j + k = s.size ∧ Scn wr b s (pos s i) (pos s j) tk F ∧ Only (· = b) w wr)
  case atStart => exact ⟨i, Lib.hid rfl, by omega, hS, Only.refl _ _⟩
  case round =>
    obtain ⟨j, HI, hj, hS1, hO1⟩ := hrel
    have hji : j ≤ s.size := by omega
    obtain ⟨y, hy⟩ : ∃ y, byteAt s j = y := ⟨_, rfl⟩
    have HY := Lib.hid hy
    by_cases hjl : j < s.size
    · obtain ⟨k', hk'⟩ : ∃ k', gk = k' + 1 := ⟨gk - 1, by omega⟩
      subst hk'
      by_cases hq : y = 10
      · have HP : Hid (linR s i = .ok () j) := Lib.hid (by have h := HI.out; unfold linF at h; rw [hy, if_pos hq] at h; exact h.symm)
        have e10 : (y != 10) = false := by simp [hq]
        clear hy hq
        go_wp2_with (first | (go_at_call 38; refine (ended_no hS1 hjl).mono ?_; rintro r w1 ⟨rfl, hO1'⟩; have hS1' := hS1.keep hO1') | (go_at_call 37; ((with_reducible refine (peek0 hS1' HY.out hz hji).mono ?_); rintro r w2 ⟨rfl, hO2⟩; have hS2 := hS1'.keep hO2)))
        go_ret
        exact sk_ok HP.out rfl hS2 ((hO1.trans hO1'.lift).trans hO2.lift)
      · have e10 : (y != 10) = true := by simp [hq]
        cases hg : gd y
        · have HP : Hid (linR s i = .bad (flt s 5 nil8 j)) := Lib.hid (by have h := HI.out; unfold linF at h; rw [hy, if_neg hq, if_pos hg] at h; exact h.symm)
          have HG := Lib.hid hg
          clear hy hq hg
          go_wp2_with (first | (go_at_call 38; refine (ended_no hS1 hjl).mono ?_; rintro r w1 ⟨rfl, hO1'⟩; have hS1' := hS1.keep hO1') | (go_at_call 37; ((with_reducible refine (peek0 hS1' HY.out hz hji).mono ?_); rintro r w2 ⟨rfl, hO2⟩; have hS2 := hS1'.keep hO2)) | (go_at_call 37; ((with_reducible refine (peek0 hS2 HY.out hz hji).mono ?_); rintro r w3 ⟨rfl, hO3⟩; have hS3 := hS2.keep hO3)) | (go_at_call 88; refine (isSourceByte_any _ _).mono ?_; rw [HG.out]; rintro r w5 ⟨rfl, rfl⟩) | (go_at_call 46; refine (failHere_p hS3).mono ?_; rintro r w7 ⟨rfl, hB7, hO7⟩))
          go_ret
          exact sk_bad HP.out rfl hB7 ((((hO1.trans hO1'.lift).trans hO2.lift).trans hO3.lift).trans hO7)
        · have HP : Hid (linF s k' (j + 1) = linR s i) := Lib.hid (by have h := HI.out; unfold linF at h; rw [hy, if_neg hq, if_neg (by rw [hg]; decide)] at h; exact h)
          have HG := Lib.hid hg
          clear hy hq hg
          go_wp2_with (first | (go_at_call 38; refine (ended_no hS1 hjl).mono ?_; rintro r w1 ⟨rfl, hO1'⟩; have hS1' := hS1.keep hO1') | (go_at_call 37; ((with_reducible refine (peek0 hS1' HY.out hz hji).mono ?_); rintro r w2 ⟨rfl, hO2⟩; have hS2 := hS1'.keep hO2)) | (go_at_call 37; ((with_reducible refine (peek0 hS2 HY.out hz hji).mono ?_); rintro r w3 ⟨rfl, hO3⟩; have hS3 := hS2.keep hO3)) | (go_at_call 88; refine (isSourceByte_any _ _).mono ?_; rw [HG.out]; rintro r w5 ⟨rfl, rfl⟩) | (go_at_call 39; refine (skip1 hS3 hz hjl).mono ?_; rintro r w7 ⟨rfl, hS7, hO7⟩))
          go_roundg k'
          case rel => exact ⟨j + 1, HP, by omega, hS7, (((hO1.trans hO1'.lift).trans hO2.lift).trans hO3.lift).trans hO7⟩
          case measure => omega
    · have hje : j = s.size := by omega
      have hk0 : gk = 0 := by omega
      subst hk0
      have HP : Hid (linR s i = .ok () j) := Lib.hid HI.out.symm
      clear hjl
      have HJ := Lib.hid hje
      clear hje hy
      go_wp2_with (first | (go_at_call 38; refine (ended_yes hS1 HJ.out).mono ?_; rintro r w1 ⟨rfl, hO1'⟩; have hS1' := hS1.keep hO1'))
      go_ret
      exact sk_ok HP.out rfl hS1' (hO1.trans hO1'.lift)
set_option maxRecDepth 100000 in
set_option maxHeartbeats 2000000 in
theorem comment_p (hS : Scn w b s (pos s i) (pos s i) tk F) (hz : s.size ≤ 65536) (hi : i ≤ s.size) :
    Calls Tryz.prog 47 #[.pointer (some ⟨b, 0, none⟩)] w (SkPost w b s i tk F (comR s i)) := by
  go_enter Tryz.func47, Tryz.ntmps47
  go_wp2
  go_loopg [3] (s.size - i) (fun k v wr => ∃ (j : Nat) (d : Int), Hid (comF s i k j d = comR s i) ∧ v = .int .i64 d ∧ s.size ≤ j + k ∧ j ≤ s.size ∧ -(j : Int) ≤ d ∧ d ≤ (j : Int) ∧ Scn wr b s (pos s i) (pos s j) tk F ∧ Only (· = b) w wr)
  case atStart => exact ⟨i, 0, Lib.hid rfl, rfl, by omega, by omega, by omega, by omega, hS, Only.refl _ _⟩
  case round =>
    obtain ⟨j, d, HI, rfl, hj, hji, hd0, hd1, hS1, hO1⟩ := hrel
    obtain ⟨y, hy⟩ : ∃ y, byteAt s j = y := ⟨_, rfl⟩
    obtain ⟨x, hx⟩ : ∃ x, byteAt s (j + 1) = x := ⟨_, rfl⟩
    have HY := Lib.hid hy
    have HX := Lib.hid hx
    by_cases hjl : j < s.size
    · obtain ⟨k', hk'⟩ : ∃ k', gk = k' + 1 := ⟨gk - 1, by omega⟩
      subst hk'
      by_cases h1 : y = 123 ∧ x = 45
      · have HI1 : Hid ((if d + 1 = 0 then RR.ok () (j + 2) else comF s i k' (j + 2) (d + 1)) = comR s i) := Lib.hid (by have h := HI.out; unfold comF at h; rw [hy, hx, if_pos hjl, if_pos h1] at h; exact h)
        have hj2 : j + 2 ≤ s.size := by have := byteAt_pos (s := s) (i := j + 1) (by omega); omega
        have e1 : (y == 123) = true := by simp [h1.1]
        have e2 : (x == 45) = true := by simp [h1.2]
        clear hy hx h1 HI
        by_cases hd : d + 1 = 0
        · have HP : Hid (comR s i = .ok () (j + 2)) := Lib.hid (by rw [← HI1.out, if_pos hd])
          have ed : (d + 1 == 0) = true := by simp [hd]
          clear hd
          go_wp2_with (first | (go_at_call 38; refine (ended_no hS1 hjl).mono ?_; rintro r w1 ⟨rfl, hO1'⟩; have hS1' := hS1.keep hO1') | (go_at_call 37; ((with_reducible refine (peek0 hS1' HY.out hz hji).mono ?_); rintro r w2 ⟨rfl, hO2⟩; have hS2 := hS1'.keep hO2)) | (go_at_call 37; ((with_reducible refine (peek1 hS2 HX.out hz hji).mono ?_); rintro r w3 ⟨rfl, hO3⟩; have hS3 := hS2.keep hO3)) | (go_at_call 39; refine (skip2 hS3 hz hj2).mono ?_; rintro r w7 ⟨rfl, hS7, hO7⟩))
          go_ret
          exact sk_ok HP.out rfl hS7 ((((hO1.trans hO1'.lift).trans hO2.lift).trans hO3.lift).trans hO7)
        · have HP : Hid (comF s i k' (j + 2) (d + 1) = comR s i) := Lib.hid (by rw [← HI1.out, if_neg hd])
          have ed : (d + 1 == 0) = false := by simp [hd]
          clear hd
          go_wp2_with (first | (go_at_call 38; refine (ended_no hS1 hjl).mono ?_; rintro r w1 ⟨rfl, hO1'⟩; have hS1' := hS1.keep hO1') | (go_at_call 37; ((with_reducible refine (peek0 hS1' HY.out hz hji).mono ?_); rintro r w2 ⟨rfl, hO2⟩; have hS2 := hS1'.keep hO2)) | (go_at_call 37; ((with_reducible refine (peek1 hS2 HX.out hz hji).mono ?_); rintro r w3 ⟨rfl, hO3⟩; have hS3 := hS2.keep hO3)) | (go_at_call 39; refine (skip2 hS3 hz hj2).mono ?_; rintro r w7 ⟨rfl, hS7, hO7⟩))
          go_roundg k'
          case rel => exact ⟨j + 2, d + 1, HP, rfl, by omega, by omega, by omega, by omega, hS7, (((hO1.trans hO1'.lift).trans hO2.lift).trans hO3.lift).trans hO7⟩
          case measure => omega
      · by_cases h2 : y = 45 ∧ x = 125
        · have HI1 : Hid ((if d - 1 = 0 then RR.ok () (j + 2) else comF s i k' (j + 2) (d - 1)) = comR s i) := Lib.hid (by have h := HI.out; unfold comF at h; rw [hy, hx, if_pos hjl, if_neg h1, if_pos h2] at h; exact h)
          have hj2 : j + 2 ≤ s.size := by have := byteAt_pos (s := s) (i := j + 1) (by omega); omega
          have e1 : (y == 123) = false := by simp [h2.1]
          have e2 : (y == 45) = true := by simp [h2.1]
          have e3 : (x == 125) = true := by simp [h2.2]
          clear hy hx h1 h2 HI
          by_cases hd : d - 1 = 0
          · have HP : Hid (comR s i = .ok () (j + 2)) := Lib.hid (by rw [← HI1.out, if_pos hd])
            have ed : (d - 1 == 0) = true := by simp [hd]
            clear hd
            go_wp2_with (first | (go_at_call 38; refine (ended_no hS1 hjl).mono ?_; rintro r w1 ⟨rfl, hO1'⟩; have hS1' := hS1.keep hO1') | (go_at_call 37; ((with_reducible refine (peek0 hS1' HY.out hz hji).mono ?_); rintro r w2 ⟨rfl, hO2⟩; have hS2 := hS1'.keep hO2)) | (go_at_call 37; ((with_reducible refine (peek1 hS2 HX.out hz hji).mono ?_); rintro r w3 ⟨rfl, hO3⟩; have hS3 := hS2.keep hO3)) | (go_at_call 39; refine (skip2 hS3 hz hj2).mono ?_; rintro r w7 ⟨rfl, hS7, hO7⟩))
            go_ret
            exact sk_ok HP.out rfl hS7 ((((hO1.trans hO1'.lift).trans hO2.lift).trans hO3.lift).trans hO7)
          · have HP : Hid (comF s i k' (j + 2) (d - 1) = comR s i) := Lib.hid (by rw [← HI1.out, if_neg hd])
            have ed : (d - 1 == 0) = false := by simp [hd]
            clear hd
            go_wp2_with (first | (go_at_call 38; refine (ended_no hS1 hjl).mono ?_; rintro r w1 ⟨rfl, hO1'⟩; have hS1' := hS1.keep hO1') | (go_at_call 37; ((with_reducible refine (peek0 hS1' HY.out hz hji).mono ?_); rintro r w2 ⟨rfl, hO2⟩; have hS2 := hS1'.keep hO2)) | (go_at_call 37; ((with_reducible refine (peek1 hS2 HX.out hz hji).mono ?_); rintro r w3 ⟨rfl, hO3⟩; have hS3 := hS2.keep hO3)) | (go_at_call 39; refine (skip2 hS3 hz hj2).mono ?_; rintro r w7 ⟨rfl, hS7, hO7⟩))
            go_roundg k'
            case rel => exact ⟨j + 2, d - 1, HP, rfl, by omega, by omega, by omega, by omega, hS7, (((hO1.trans hO1'.lift).trans hO2.lift).trans hO3.lift).trans hO7⟩
            case measure => omega
        · have HI1 : Hid ((if gd y = false then RR.bad (flt s 5 nil8 j) else if d = 0 then RR.ok () (j + 1) else comF s i k' (j + 1) d) = comR s i) := Lib.hid (by have h := HI.out; unfold comF at h; rw [hy, hx, if_pos hjl, if_neg h1, if_neg h2] at h; exact h)
          have hs : (y = 123 ∧ ¬ x = 45) ∨ (y = 45 ∧ ¬ x = 125) ∨ (¬ y = 123 ∧ ¬ y = 45) := by omega
          clear hy hx h1 h2 HI
          rcases hs with ⟨k1, k2⟩ | ⟨k1, k2⟩ | ⟨k1, k2⟩
          · have e1 : (y == 123) = true := by simp [k1]
            have e2 : (x == 45) = false := by simp [k2]
            have e3 : (y == 45) = false := by simp [k1]
            clear k1 k2
            cases hg : gd y
            · have HP : Hid (comR s i = .bad (flt s 5 nil8 j)) := Lib.hid (by rw [← HI1.out, if_pos hg])
              have HG := Lib.hid hg
              clear hg
              go_wp2_with (first | (go_at_call 38; refine (ended_no hS1 hjl).mono ?_; rintro r w1 ⟨rfl, hO1'⟩; have hS1' := hS1.keep hO1') | (go_at_call 37; ((with_reducible refine (peek0 hS1' HY.out hz hji).mono ?_); rintro r w2 ⟨rfl, hO2⟩; have hS2 := hS1'.keep hO2)) | (go_at_call 37; ((with_reducible refine (peek1 hS2 HX.out hz hji).mono ?_); rintro r w3 ⟨rfl, hO3⟩; have hS3 := hS2.keep hO3)) | (go_at_call 88; refine (isSourceByte_any _ _).mono ?_; rw [HG.out]; rintro r w5 ⟨rfl, rfl⟩) | (go_at_call 46; refine (failHere_p hS3).mono ?_; rintro r w7 ⟨rfl, hB7, hO7⟩))
              go_ret
              exact sk_bad HP.out rfl hB7 ((((hO1.trans hO1'.lift).trans hO2.lift).trans hO3.lift).trans hO7)
            · have HI0 := HI1
              have HI1 : Hid ((if d = 0 then RR.ok () (j + 1) else comF s i k' (j + 1) d) = comR s i) := Lib.hid (by have h := HI0.out; rw [if_neg (show ¬ (gd y = false) from by rw [hg]; decide)] at h; exact h)
              have HG := Lib.hid hg
              clear hg HI0
              by_cases hd : d = 0
              · have HP : Hid (comR s i = .ok () (j + 1)) := Lib.hid (by rw [← HI1.out, if_pos hd])
                have ed : (d == 0) = true := by simp [hd]
                clear hd
                go_wp2_with (first | (go_at_call 38; refine (ended_no hS1 hjl).mono ?_; rintro r w1 ⟨rfl, hO1'⟩; have hS1' := hS1.keep hO1') | (go_at_call 37; ((with_reducible refine (peek0 hS1' HY.out hz hji).mono ?_); rintro r w2 ⟨rfl, hO2⟩; have hS2 := hS1'.keep hO2)) | (go_at_call 37; ((with_reducible refine (peek1 hS2 HX.out hz hji).mono ?_); rintro r w3 ⟨rfl, hO3⟩; have hS3 := hS2.keep hO3)) | (go_at_call 88; refine (isSourceByte_any _ _).mono ?_; rw [HG.out]; rintro r w5 ⟨rfl, rfl⟩) | (go_at_call 39; refine (skip1 hS3 hz hjl).mono ?_; rintro r w7 ⟨rfl, hS7, hO7⟩))
                go_ret
                exact sk_ok HP.out rfl hS7 ((((hO1.trans hO1'.lift).trans hO2.lift).trans hO3.lift).trans hO7)
              · have HP : Hid (comF s i k' (j + 1) (d) = comR s i) := Lib.hid (by rw [← HI1.out, if_neg hd])
                have ed : (d == 0) = false := by simp [hd]
                clear hd
                go_wp2_with (first | (go_at_call 38; refine (ended_no hS1 hjl).mono ?_; rintro r w1 ⟨rfl, hO1'⟩; have hS1' := hS1.keep hO1') | (go_at_call 37; ((with_reducible refine (peek0 hS1' HY.out hz hji).mono ?_); rintro r w2 ⟨rfl, hO2⟩; have hS2 := hS1'.keep hO2)) | (go_at_call 37; ((with_reducible refine (peek1 hS2 HX.out hz hji).mono ?_); rintro r w3 ⟨rfl, hO3⟩; have hS3 := hS2.keep hO3)) | (go_at_call 88; refine (isSourceByte_any _ _).mono ?_; rw [HG.out]; rintro r w5 ⟨rfl, rfl⟩) | (go_at_call 39; refine (skip1 hS3 hz hjl).mono ?_; rintro r w7 ⟨rfl, hS7, hO7⟩))
                go_roundg k'
                case rel => exact ⟨j + 1, d, HP, rfl, by omega, by omega, by omega, by omega, hS7, (((hO1.trans hO1'.lift).trans hO2.lift).trans hO3.lift).trans hO7⟩
                case measure => omega
          · have e1 : (y == 123) = false := by simp [k1]
            have e2 : (y == 45) = true := by simp [k1]
            have e3 : (x == 125) = false := by simp [k2]
            clear k1 k2
            cases hg : gd y
            · have HP : Hid (comR s i = .bad (flt s 5 nil8 j)) := Lib.hid (by rw [← HI1.out, if_pos hg])
              have HG := Lib.hid hg
              clear hg
              go_wp2_with (first | (go_at_call 38; refine (ended_no hS1 hjl).mono ?_; rintro r w1 ⟨rfl, hO1'⟩; have hS1' := hS1.keep hO1') | (go_at_call 37; ((with_reducible refine (peek0 hS1' HY.out hz hji).mono ?_); rintro r w2 ⟨rfl, hO2⟩; have hS2 := hS1'.keep hO2)) | (go_at_call 37; ((with_reducible refine (peek1 hS2 HX.out hz hji).mono ?_); rintro r w3 ⟨rfl, hO3⟩; have hS3 := hS2.keep hO3)) | (go_at_call 88; refine (isSourceByte_any _ _).mono ?_; rw [HG.out]; rintro r w5 ⟨rfl, rfl⟩) | (go_at_call 46; refine (failHere_p hS3).mono ?_; rintro r w7 ⟨rfl, hB7, hO7⟩))
              go_ret
              exact sk_bad HP.out rfl hB7 ((((hO1.trans hO1'.lift).trans hO2.lift).trans hO3.lift).trans hO7)
            · have HI0 := HI1
              have HI1 : Hid ((if d = 0 then RR.ok () (j + 1) else comF s i k' (j + 1) d) = comR s i) := Lib.hid (by have h := HI0.out; rw [if_neg (show ¬ (gd y = false) from by rw [hg]; decide)] at h; exact h)
              have HG := Lib.hid hg
              clear hg HI0
              by_cases hd : d = 0
              · have HP : Hid (comR s i = .ok () (j + 1)) := Lib.hid (by rw [← HI1.out, if_pos hd])
                have ed : (d == 0) = true := by simp [hd]
                clear hd
                go_wp2_with (first | (go_at_call 38; refine (ended_no hS1 hjl).mono ?_; rintro r w1 ⟨rfl, hO1'⟩; have hS1' := hS1.keep hO1') | (go_at_call 37; ((with_reducible refine (peek0 hS1' HY.out hz hji).mono ?_); rintro r w2 ⟨rfl, hO2⟩; have hS2 := hS1'.keep hO2)) | (go_at_call 37; ((with_reducible refine (peek1 hS2 HX.out hz hji).mono ?_); rintro r w3 ⟨rfl, hO3⟩; have hS3 := hS2.keep hO3)) | (go_at_call 88; refine (isSourceByte_any _ _).mono ?_; rw [HG.out]; rintro r w5 ⟨rfl, rfl⟩) | (go_at_call 39; refine (skip1 hS3 hz hjl).mono ?_; rintro r w7 ⟨rfl, hS7, hO7⟩))
                go_ret
                exact sk_ok HP.out rfl hS7 ((((hO1.trans hO1'.lift).trans hO2.lift).trans hO3.lift).trans hO7)
              · have HP : Hid (comF s i k' (j + 1) (d) = comR s i) := Lib.hid (by rw [← HI1.out, if_neg hd])
                have ed : (d == 0) = false := by simp [hd]
                clear hd
                go_wp2_with (first | (go_at_call 38; refine (ended_no hS1 hjl).mono ?_; rintro r w1 ⟨rfl, hO1'⟩; have hS1' := hS1.keep hO1') | (go_at_call 37; ((with_reducible refine (peek0 hS1' HY.out hz hji).mono ?_); rintro r w2 ⟨rfl, hO2⟩; have hS2 := hS1'.keep hO2)) | (go_at_call 37; ((with_reducible refine (peek1 hS2 HX.out hz hji).mono ?_); rintro r w3 ⟨rfl, hO3⟩; have hS3 := hS2.keep hO3)) | (go_at_call 88; refine (isSourceByte_any _ _).mono ?_; rw [HG.out]; rintro r w5 ⟨rfl, rfl⟩) | (go_at_call 39; refine (skip1 hS3 hz hjl).mono ?_; rintro r w7 ⟨rfl, hS7, hO7⟩))
                go_roundg k'
                case rel => exact ⟨j + 1, d, HP, rfl, by omega, by omega, by omega, by omega, hS7, (((hO1.trans hO1'.lift).trans hO2.lift).trans hO3.lift).trans hO7⟩
                case measure => omega
          · have e1 : (y == 123) = false := by simp [k1]
            have e2 : (y == 45) = false := by simp [k2]
            clear k1 k2
            cases hg : gd y
            · have HP : Hid (comR s i = .bad (flt s 5 nil8 j)) := Lib.hid (by rw [← HI1.out, if_pos hg])
              have HG := Lib.hid hg
              clear hg
              go_wp2_with (first | (go_at_call 38; refine (ended_no hS1 hjl).mono ?_; rintro r w1 ⟨rfl, hO1'⟩; have hS1' := hS1.keep hO1') | (go_at_call 37; ((with_reducible refine (peek0 hS1' HY.out hz hji).mono ?_); rintro r w2 ⟨rfl, hO2⟩; have hS2 := hS1'.keep hO2)) | (go_at_call 88; refine (isSourceByte_any _ _).mono ?_; rw [HG.out]; rintro r w5 ⟨rfl, rfl⟩) | (go_at_call 46; refine (failHere_p hS2).mono ?_; rintro r w7 ⟨rfl, hB7, hO7⟩))
              go_ret
              exact sk_bad HP.out rfl hB7 (((hO1.trans hO1'.lift).trans hO2.lift).trans hO7)
            · have HI0 := HI1
              have HI1 : Hid ((if d = 0 then RR.ok () (j + 1) else comF s i k' (j + 1) d) = comR s i) := Lib.hid (by have h := HI0.out; rw [if_neg (show ¬ (gd y = false) from by rw [hg]; decide)] at h; exact h)
              have HG := Lib.hid hg
              clear hg HI0
              by_cases hd : d = 0
              · have HP : Hid (comR s i = .ok () (j + 1)) := Lib.hid (by rw [← HI1.out, if_pos hd])
                have ed : (d == 0) = true := by simp [hd]
                clear hd
                go_wp2_with (first | (go_at_call 38; refine (ended_no hS1 hjl).mono ?_; rintro r w1 ⟨rfl, hO1'⟩; have hS1' := hS1.keep hO1') | (go_at_call 37; ((with_reducible refine (peek0 hS1' HY.out hz hji).mono ?_); rintro r w2 ⟨rfl, hO2⟩; have hS2 := hS1'.keep hO2)) | (go_at_call 88; refine (isSourceByte_any _ _).mono ?_; rw [HG.out]; rintro r w5 ⟨rfl, rfl⟩) | (go_at_call 39; refine (skip1 hS2 hz hjl).mono ?_; rintro r w7 ⟨rfl, hS7, hO7⟩))
                go_ret
                exact sk_ok HP.out rfl hS7 (((hO1.trans hO1'.lift).trans hO2.lift).trans hO7)
              · have HP : Hid (comF s i k' (j + 1) (d) = comR s i) := Lib.hid (by rw [← HI1.out, if_neg hd])
                have ed : (d == 0) = false := by simp [hd]
                clear hd
                go_wp2_with (first | (go_at_call 38; refine (ended_no hS1 hjl).mono ?_; rintro r w1 ⟨rfl, hO1'⟩; have hS1' := hS1.keep hO1') | (go_at_call 37; ((with_reducible refine (peek0 hS1' HY.out hz hji).mono ?_); rintro r w2 ⟨rfl, hO2⟩; have hS2 := hS1'.keep hO2)) | (go_at_call 88; refine (isSourceByte_any _ _).mono ?_; rw [HG.out]; rintro r w5 ⟨rfl, rfl⟩) | (go_at_call 39; refine (skip1 hS2 hz hjl).mono ?_; rintro r w7 ⟨rfl, hS7, hO7⟩))
                go_roundg k'
                case rel => exact ⟨j + 1, d, HP, rfl, by omega, by omega, by omega, by omega, hS7, ((hO1.trans hO1'.lift).trans hO2.lift).trans hO7⟩
                case measure => omega
    · have hje : j = s.size := by omega
      have HP : Hid (comR s i = .bad (flt s 8 nil8 i)) := Lib.hid (by
        have h := HI.out
        cases gk with
        | zero => exact h.symm
        | succ k' => unfold comF at h; rw [if_neg hjl] at h; exact h.symm)
      clear hjl
      have HJ := Lib.hid hje
      clear hje hy hx HI
      go_wp2_with (first | (go_at_call 38; refine (ended_yes hS1 HJ.out).mono ?_; rintro r w1 ⟨rfl, hO1'⟩; have hS1' := hS1.keep hO1') | (go_at_call 89; refine (fail_p hS1' 8 _).mono ?_; rintro r w7 ⟨rfl, hB7, hO7⟩))
      go_ret
      exact sk_bad HP.out rfl hB7 ((hO1.trans hO1'.lift).trans hO7)
end
end Go.Proofs.YtelichlplblboaaGreatDoor
