/-
  WALKS. The reference of package names: numbers, Stem, Made, Base, Classify.
-/
import Derived.Test.YtniejaachfhkdaaGreatDoorRef
import Derived.Test.YtniejaachfhkdaaGreatDoorNumP
namespace Go.Proofs.YtniejaachfhkdaaGreatDoor
open Go.RowKit
theorem dgS {s : ByteArray} {k : Nat} (h : k < s.size) : dgB s[k] = dg (s[k].toNat : Int) := rfl
theorem numOf_empty {s : ByteArray} (h : s.size = 0) : numOf s.data.toList = none := by
  rw [numOf_eq, if_neg]
  rintro ⟨hc, _⟩
  rw [Lib.size_eq] at h
  simp [canon, h] at hc
theorem numOf_zero {s : ByteArray} (h : 1 < s.size) (h0 : ((s[0].toNat : Int) == 48) = true) : numOf s.data.toList = none := by
  rw [numOf_eq, if_neg]
  rintro ⟨hc, _⟩
  simp only [canon, Bool.and_eq_true, Bool.or_eq_true, decide_eq_true_eq] at hc
  have e : s.data.toList.head? = some 48 := by
    rw [List.head?_eq_getElem?, get_eq (by omega)]
    have : ((s[0].toNat : Int) == (48 : Nat)) = true := h0
    rw [byte_eq _ 48 (by omega)] at this
    simp at this
    rw [this]
  rw [Lib.size_eq] at h
  rcases hc.2 with h1 | h1
  · exact h1 e
  · omega
theorem numOf_stop {s : ByteArray} {k : Nat} (h : k < s.size) (hd : dg (s[k].toNat : Int) = false) : numOf s.data.toList = none := by
  rw [numOf_eq, if_neg]
  rintro ⟨hc, _⟩
  simp only [canon, Bool.and_eq_true] at hc
  have := all_stop h (p := dgB) hd
  rw [hc.1.2] at this
  cases this
theorem vl_mono (a b : List UInt8) : vl a ≤ vl (a ++ b) := by
  have key : ∀ (r : List UInt8) (a : Nat), a ≤ r.foldl (fun a c => a * 10 + (c.toNat - 48)) a := by
    intro r
    induction r with
    | nil => intro a; exact Nat.le_refl _
    | cons c r ih => intro a; exact Nat.le_trans (show a ≤ a * 10 + (c.toNat - 48) by omega) (ih _)
  unfold vl
  rw [List.foldl_append]
  exact key b _
theorem vl_step {s : ByteArray} {k : Nat} (h : k < s.size) : vl (s.data.toList.take (k + 1)) = vl (s.data.toList.take k) * 10 + (s[k].toNat - 48) := by
  rw [take_snoc s k h, vl_snoc]
theorem numOf_big {s : ByteArray} {k : Nat} (_h : k < s.size) (hb : 9223372036854775807 < vl (s.data.toList.take (k + 1))) : numOf s.data.toList = none := by
  rw [numOf_eq, if_neg]
  rintro ⟨_, hv⟩
  have := vl_mono (s.data.toList.take (k + 1)) (s.data.toList.drop (k + 1))
  rw [List.take_append_drop] at this
  omega
theorem numOf_end {s : ByteArray} (h0 : 1 ≤ s.size) (h1 : s.size = 1 ∨ (((if _h : 0 < s.size then (s[0].toNat : Int) else 0) == 48) = false)) {k : Nat} (hk : s.size ≤ k) (ha : (s.data.toList.take k).all dgB = true) (hv : vl (s.data.toList.take k) ≤ 9223372036854775807) :
    numOf s.data.toList = some (vl (s.data.toList.take k) : Int) := by
  rw [take_end hk] at ha hv ⊢
  rw [numOf_eq, if_pos]
  refine ⟨?_, hv⟩
  simp only [canon, Bool.and_eq_true, Bool.or_eq_true, decide_eq_true_eq]
  refine ⟨⟨by rw [← Lib.size_eq]; exact h0, ha⟩, ?_⟩
  rcases h1 with h1 | h1
  · exact .inr (by rw [← Lib.size_eq]; exact h1)
  · left
    intro e
    rw [List.head?_eq_getElem?, get_eq (show 0 < s.size from h0)] at e
    have e2 := Option.some.inj e
    rw [dif_pos (show 0 < s.size from h0), e2] at h1
    simp at h1
set_option maxRecDepth 100000 in
set_option maxHeartbeats 1000000 in
theorem rnumber_any (s : ByteArray) (w : World) (hs : s.size ≤ 1000000) :
    Calls Tryz.prog 44 #[.string s] w fun e w' => e = .returned (.tuple #[.int .i64 ((numOf s.data.toList).getD 0), .bool (numOf s.data.toList).isSome]) ∧ w = w' := by
  have HT := Lib.hid (Lib.toList_data s)
  by_cases hz : s.size = 0
  · have e0 : s.toList.isEmpty = true := by rw [HT.out, List.isEmpty_iff, ← List.length_eq_zero_iff, ← Lib.size_eq]; exact hz
    have HN := Lib.hid (numOf_empty hz)
    clear hz
    go_enter Tryz.func44, Tryz.ntmps44
    go_wp2
    go_ret2
    exact ⟨by rw [HN.out]; rfl, rfl⟩
  · have h0 : 0 < s.size := by omega
    have h01 : 1 ≤ s.size := h0
    have e0 : s.toList.isEmpty = false := by
      rw [HT.out, List.isEmpty_eq_false_iff, ← List.length_pos_iff, ← Lib.size_eq]; exact h0
    clear hz
    by_cases hzz : ((s[0].toNat : Int) == 48) = true ∧ 1 < s.size
    · obtain ⟨hc, hl⟩ := hzz
      have HN := Lib.hid (numOf_zero hl hc)
      have e1 : decide (1 < (s.size : Int)) = true := by simp; omega
      go_enter Tryz.func44, Tryz.ntmps44
      go_wp2
      go_ret2
      exact ⟨by rw [HN.out]; rfl, rfl⟩
    · have hor : s.size = 1 ∨ (((if _h : 0 < s.size then (s[0].toNat : Int) else 0) == 48) = false) := by
        rw [dif_pos h0]
        by_cases h1 : s.size = 1
        · exact .inl h1
        · right
          cases hcc : ((s[0].toNat : Int) == 48)
          · rfl
          · exact absurd ⟨hcc, by omega⟩ hzz
      have HOR := Lib.hid hor
      have hcases : (((s[0].toNat : Int) == 48) = false) ∨ ((((s[0].toNat : Int) == 48) = true) ∧ decide (1 < (s.size : Int)) = false) := by
        cases hcc : ((s[0].toNat : Int) == 48)
        · exact .inl rfl
        · right
          refine ⟨rfl, ?_⟩
          have : ¬ 1 < s.size := fun h => hzz ⟨hcc, h⟩
          simp; omega
      clear hzz hor
      rcases hcases with hc | ⟨hc, hc2⟩
      all_goals
        go_enter Tryz.func44, Tryz.ntmps44
        go_wp2
        go_loop [4, 5, 6] (fun n i _ => ∃ k : Nat, k ≤ s.size ∧ i = .int .i64 k ∧ n = .int .i64 (vl (s.data.toList.take k)) ∧ (s.data.toList.take k).all dgB = true ∧ vl (s.data.toList.take k) ≤ 9223372036854775807) (fun _ i _ => s.size - (intOf i).toNat)
        case atStart => exact ⟨0, by omega, rfl, rfl, rfl, Nat.zero_le _⟩
        case round =>
          obtain ⟨k, hk, rfl, rfl, hno, hmx⟩ := hrel
          have HN := Lib.hid hno
          have HX := Lib.hid hmx
          obtain ⟨t, ht⟩ : ∃ t, t = vl (s.data.toList.take k) := ⟨_, rfl⟩
          rw [← ht] at hmx ⊢
          by_cases hlt : k < s.size
          · have HV := Lib.hid (vl_step hlt)
            cases hd : dg (s[k].toNat : Int)
            · have HS := Lib.hid (numOf_stop hlt hd)
              have HT2 := Lib.hid ht
              clear hno ht
              go_wp2_with (first | (go_at_call 85; refine (rdigit_any _ _).mono ?_; rintro e w' ⟨rfl, rfl⟩))
              go_ret2
              exact ⟨by rw [HS.out]; rfl, rfl⟩
            · have hD : dgB s[k] = true := hd
              have hcd := (dgB_iff _).1 hD
              obtain ⟨hc0, hc1⟩ := hcd
              have HD := Lib.hid hD
              have HT2 := Lib.hid ht
              have c0 : (48 : Int) ≤ (s[k].toNat : Int) := by omega
              have c1 : (s[k].toNat : Int) ≤ 57 := by omega
              clear hno ht hD hc0 hc1
              go_wp2_with (first | (go_at_call 85; refine (rdigit_any _ _).mono ?_; rintro e w' ⟨rfl, rfl⟩))
              · have hbig : (9223372036854775807 - ((s[k].toNat : Int) - 48)) / 10 < (t : Int) := by assumption
                have HB := Lib.hid (numOf_big hlt (by rw [HV.out, ← HT2.out]; omega))
                go_ret2
                exact ⟨by rw [HB.out]; rfl, rfl⟩
              · have hle : (t : Int) ≤ (9223372036854775807 - ((s[k].toNat : Int) - 48)) / 10 := by assumption
                exact ⟨⟨k + 1, by omega, by go_num, val_int (by rw [HV.out, ← HT2.out]; omega), all_step hlt HD.out HN.out, by rw [HV.out, ← HT2.out]; omega⟩, by simp [intOf]; omega⟩
          · have HS := Lib.hid (numOf_end h01 HOR.out (show s.size ≤ k by omega) HN.out HX.out)
            have HT2 := Lib.hid ht
            clear hno ht
            go_wp2
            go_ret2
            exact ⟨by rw [HS.out, ← HT2.out]; rfl, rfl⟩
set_option maxRecDepth 100000 in
set_option maxHeartbeats 400000 in
theorem rStem_any (s : ByteArray) (W w : World) (hs : s.size ≤ 1000000) (hq : Q W w) :
    Calls Tryz.prog 43 #[.string s] w fun e w' => e = .returned (.bool (stem s.data.toList)) ∧ Q W w' := by
  have HS : Hid (stem s.data.toList = (named s.data.toList || spl s.data.toList)) := Lib.hid rfl
  go_enter Tryz.func43, Tryz.ntmps43
  go_wp2_with (first | (go_at_call 83; refine (rSplit_any _ _ hs).mono ?_; rintro e w2 ⟨rfl, hb2⟩; have hq2 := hq.below hb2) | (go_at_call 84; refine (rNamed_any _ _).mono ?_; rintro e w3 ⟨rfl, rfl⟩))
  all_goals (go_ret; exact ⟨ret_bool (by rw [HS.out]; simp_all), hq2⟩)
set_option maxRecDepth 100000 in
set_option maxHeartbeats 400000 in
theorem rMade_any (s : ByteArray) (n : Int) (W w : World) (hs : s.size ≤ 1000000) (h1 : n ≤ 9223372036854775807) (hq : Q W w) :
    Calls Tryz.prog 17 #[.string s, .int .i64 n] w fun e w' => e = .returned (.string (mkB s n)) ∧ Q W w' := by
  cases h : stem s.data.toList
  · have H : Hid (mkB s n = ⟨#[]⟩) := Lib.hid (by simp [mkB, h])
    go_enter Tryz.func17, Tryz.ntmps17
    go_wp2_with (first | (go_at_call 43; refine (rStem_any _ _ _ hs hq).mono ?_; rintro e w1 ⟨rfl, hq1⟩))
    go_ret
    exact ⟨by rw [H.out]; rfl, by assumption⟩
  · by_cases hn : 0 ≤ n
    · have e1 : decide (n < 0) = false := by simp; omega
      have hl : (Lib.itoa n).length ≤ 21 := Lib.itoa_length_le n (by omega) (by omega)
      have H : Hid (mkB s n = madeB s n) := Lib.hid (by simp [mkB, h]; omega)
      go_enter Tryz.func17, Tryz.ntmps17
      go_wp2_with (first | (go_at_call 43; refine (rStem_any _ _ _ hs hq).mono ?_; rintro e w1 ⟨rfl, hq1⟩) | (go_at_call 46; refine (itoa_q _ _ _ (by omega) (by omega) hq1).mono ?_; rintro e w2 ⟨rfl, hq2⟩))
      go_ret
      exact ⟨by rw [H.out]; rfl, hq2⟩
    · have e1 : n < 0 := by omega
      have H : Hid (mkB s n = ⟨#[]⟩) := Lib.hid (by simp [mkB, e1])
      go_enter Tryz.func17, Tryz.ntmps17
      go_wp2_with (first | (go_at_call 43; refine (rStem_any _ _ _ hs hq).mono ?_; rintro e w1 ⟨rfl, hq1⟩))
      go_ret
      exact ⟨by rw [H.out]; rfl, by assumption⟩
theorem lastIdx_step {s : ByteArray} {k : Nat} (h : k < s.size) : Lib.lastIdx s 36 (k + 1) = if ((s[k].toNat : Int) == 36) = true then (k : Int) else Lib.lastIdx s 36 k := by
  have e : s.data[k]! = s[k] := by
    rw [getElem!_pos s.data k h]; rfl
  rw [Lib.lastIdx, e]
  simp
theorem lix_end {s : ByteArray} {k : Nat} (h : k ≤ s.size) (h2 : s.size ≤ k) : Lib.lastIdx s 36 k = lix s := by
  have : k = s.size := by omega
  rw [this]; rfl
theorem rStem_v (s : ByteArray) (v : Bool) (W w : World) (hs : s.size ≤ 1000000) (h : stem s.data.toList = v) (hq : Q W w) :
    Calls Tryz.prog 43 #[.string s] w fun e w' => e = .returned (.bool v) ∧ Q W w' := h ▸ rStem_any s W w hs hq
theorem rnumber_v (s : ByteArray) (o : Option Int) (w : World) (hs : s.size ≤ 1000000) (h : numOf s.data.toList = o) :
    Calls Tryz.prog 44 #[.string s] w fun e w' => e = .returned (.tuple #[.int .i64 (o.getD 0), .bool o.isSome]) ∧ w = w' := h ▸ rnumber_any s w hs
set_option maxRecDepth 100000 in
set_option maxHeartbeats 1000000 in
theorem rBase_any (s : ByteArray) (W w : World) (hs : s.size ≤ 1000000) (hq : Q W w) :
    Calls Tryz.prog 15 #[.string s] w fun e w' => e = .returned (basR (basO s)) ∧ Q W w' := by
  go_enter Tryz.func15, Tryz.ntmps15
  go_wp2
  go_loop [5, 6] (fun a i => ∃ (k : Nat) (v : Int), k ≤ s.size ∧ i = .int .i64 k ∧ a = .int .i64 v ∧ Hid (v = Lib.lastIdx s 36 k)) (fun _ i => s.size - (intOf i).toNat)
  case atStart => exact ⟨0, -1, by omega, rfl, rfl, Lib.hid rfl⟩
  case round =>
    obtain ⟨k, v, hk, rfl, rfl, HV⟩ := hrel
    by_cases hlt : k < s.size
    · have HL := Lib.hid (lastIdx_step hlt)
      cases hm : ((s[k].toNat : Int) == 36)
      · have HM := Lib.hid hm
        go_wp2
        exact ⟨⟨k + 1, v, by omega, by go_num, rfl, Lib.hid (by rw [HL.out, HM.out, HV.out]; rfl)⟩, by simp [intOf]; omega⟩
      · have HM := Lib.hid hm
        go_wp2
        exact ⟨⟨k + 1, k, by omega, by go_num, rfl, Lib.hid (by rw [HL.out, HM.out]; rfl)⟩, by simp [intOf]; omega⟩
    · have hve : v = lix s := by rw [HV.out]; exact lix_end hk (by omega)
      rcases lix_cases s with h | ⟨i, hi, h⟩
      · obtain rfl : v = -1 := hve.trans h
        have HB : Hid (basR (basO s) = .tuple #[.string ⟨#[]⟩, .int .i64 0, .bool false]) := Lib.hid (by simp [basO, h, basR])
        clear hve h HV
        go_wp2
        go_ret3
        exact ⟨by rw [HB.out]; rfl, hq⟩
      · obtain rfl : v = (i : Int) := hve.trans h
        have z1 : (s.extract 0 i).size ≤ 1000000 := by simp; omega
        have z2 : (s.extract (i + 1) s.size).size ≤ 1000000 := by simp; omega
        have Z1 := Lib.hid z1
        have Z2 := Lib.hid z2
        have hi2 : i + 1 ≤ s.size := hi
        have e0 : decide ((i : Int) < 0) = false := by simp
        clear hve z1 z2 HV
        cases hst : stem (s.extract 0 i).data.toList
        · have HB : Hid (basR (basO s) = .tuple #[.string ⟨#[]⟩, .int .i64 0, .bool false]) := Lib.hid (by simp only [basO, h, Int.toNat_natCast, hst]; simp [basR])
          have HST := Lib.hid hst
          clear h hst
          go_wp2_with (first | (go_at_call 43; refine (rStem_v _ _ _ _ Z1.out HST.out hq).mono ?_; rintro e w1 ⟨rfl, hq1⟩))
          go_ret3
          exact ⟨by rw [HB.out]; rfl, hq1⟩
        · cases hn : numOf (s.extract (i + 1) s.size).data.toList with
          | none =>
            have HB : Hid (basR (basO s) = .tuple #[.string ⟨#[]⟩, .int .i64 0, .bool false]) := Lib.hid (by simp only [basO, h, Int.toNat_natCast, hst, hn]; simp [basR])
            have HN := Lib.hid hn
            have HST := Lib.hid hst
            clear h hn hst
            go_wp2_with (first | (go_at_call 43; refine (rStem_v _ _ _ _ Z1.out HST.out hq).mono ?_; rintro e w1 ⟨rfl, hq1⟩) | (go_at_call 44; refine (rnumber_v _ _ _ Z2.out HN.out).mono ?_; rintro e w2 ⟨rfl, rfl⟩))
            go_ret3
            exact ⟨by rw [HB.out]; rfl, hq1⟩
          | some n =>
            have HB : Hid (basR (basO s) = .tuple #[.string (s.extract 0 i), .int .i64 n, .bool true]) := Lib.hid (by simp only [basO, h, Int.toNat_natCast, hst, hn, if_neg (show ¬ (i : Int) < 0 by omega)]; simp [basR])
            have HN := Lib.hid hn
            have HST := Lib.hid hst
            clear h hn hst
            go_wp2_with (first | (go_at_call 43; refine (rStem_v _ _ _ _ Z1.out HST.out hq).mono ?_; rintro e w1 ⟨rfl, hq1⟩) | (go_at_call 44; refine (rnumber_v _ _ _ Z2.out HN.out).mono ?_; rintro e w2 ⟨rfl, rfl⟩))
            go_ret3
            exact ⟨by rw [HB.out]; rfl, hq1⟩
theorem cls_cls0 (s : ByteArray) : cls s = if cls0 s.data.toList = 0 then (if (basO s).isSome then 7 else 0) else cls0 s.data.toList := by
  unfold cls cls0 clsW clsS
  cases h1 : wordB s.data.toList
  · cases h2 : symbolB s.data.toList
    · simp
    · cases resS s.data.toList
      · by_cases h3 : hd s.data.toList = 58 <;> simp [h3]
      · simp
  · cases resW s.data.toList
    · cases up (hd s.data.toList) <;> simp
    · simp
set_option maxRecDepth 100000 in
set_option maxHeartbeats 1000000 in
theorem rClassify_any (s : ByteArray) (W w : World) (hs : s.size ≤ 1000000) (hq : Q W w) :
    Calls Tryz.prog 13 #[.string s] w fun e w' => e = .returned (.int .i64 (cls s)) ∧ Q W w' := by
  have HC := Lib.hid (cls_cls0 s)
  by_cases h0 : cls0 s.data.toList = 0
  · have e0 : (cls0 s.data.toList != 0) = false := by simp [h0]
    cases hb : basO s with
    | none =>
      have HN : Hid (cls s = 0) := Lib.hid (by rw [HC.out, if_pos h0, hb]; rfl)
      have HB : Hid (basR (basO s) = .tuple #[.string ⟨#[]⟩, .int .i64 0, .bool false]) := Lib.hid (by rw [hb]; rfl)
      clear h0 hb
      go_enter Tryz.func13, Tryz.ntmps13
      go_wp2_with (first | (go_at_call 39; refine (rSimple_any _ _).mono ?_; rintro e w' ⟨rfl, rfl⟩) | (go_at_call 15; refine (rBase_any _ _ _ hs hq).mono ?_; rintro e w1 ⟨rfl, hq1⟩; rw [HB.out]))
      go_ret
      exact ⟨ret_int' HN.out, hq1⟩
    | some p =>
      have HN : Hid (cls s = 7) := Lib.hid (by rw [HC.out, if_pos h0, hb]; rfl)
      have HB : Hid (basR (basO s) = .tuple #[.string p.1, .int .i64 p.2, .bool true]) := Lib.hid (by rw [hb]; rfl)
      clear h0 hb
      go_enter Tryz.func13, Tryz.ntmps13
      go_wp2_with (first | (go_at_call 39; refine (rSimple_any _ _).mono ?_; rintro e w' ⟨rfl, rfl⟩) | (go_at_call 15; refine (rBase_any _ _ _ hs hq).mono ?_; rintro e w1 ⟨rfl, hq1⟩; rw [HB.out]))
      go_ret
      exact ⟨ret_int' HN.out, hq1⟩
  · have e0 : (cls0 s.data.toList != 0) = true := by simp [h0]
    have HN : Hid (cls s = cls0 s.data.toList) := Lib.hid (by rw [HC.out, if_neg h0])
    clear h0
    go_enter Tryz.func13, Tryz.ntmps13
    go_wp2_with (first | (go_at_call 39; refine (rSimple_any _ _).mono ?_; rintro e w' ⟨rfl, rfl⟩))
    go_ret
    exact ⟨ret_int' HN.out, hq⟩
end Go.Proofs.YtniejaachfhkdaaGreatDoor
