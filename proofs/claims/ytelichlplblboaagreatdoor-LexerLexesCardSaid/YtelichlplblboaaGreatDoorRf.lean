/-
  WALKS. The reference of package names: Simple, Named, Join, Split.
  WALKS. The reference of package names: numbers, Stem, Made, Base, Classify.
-/
import Derived.Test.YtelichlplblboaaGreatDoorNmb
import Derived.Lib.IndexBytes
import Derived.Lib.IndexLaws
import Derived.Deep.QuietTactic
import Derived.BigQuiet
namespace Go.Proofs.YtelichlplblboaaGreatDoor
open Go.RowKit
def joinB (s t : ByteArray) : ByteArray := if con s.data.toList && named t.data.toList then s ++ ⟨#[46]⟩ ++ t else ⟨#[]⟩
def cls0 (l : List UInt8) : Int := if wordB l then clsW l else if symbolB l then clsS l else 0
theorem ret_int' {k : IntKind} {a b : Int} (h : b = a) : Ending.returned (.int k a) = Ending.returned (.int k b) := by rw [h]
set_option maxHeartbeats 400000 in
theorem rSimple_any (s : ByteArray) (w : World) :
    Calls Tryz.prog 107 #[.string s] w fun e w' => e = .returned (.int .i64 (cls0 s.data.toList)) ∧ w = w' := by
  by_cases h0 : 0 < s.size
  · have HC : Hid (cls0 s.data.toList = if wordB s.data.toList then (if resW s.data.toList then (5 : Int) else if up (s[0].toNat : Int) then (2 : Int) else (1 : Int)) else if symbolB s.data.toList then (if resS s.data.toList then (6 : Int) else if (s[0].toNat : Int) = 58 then (4 : Int) else (3 : Int)) else (0 : Int)) := Lib.hid (by rw [cls0, clsW, clsS, hd_eq h0])
    go_enter Tryz.func107, Tryz.ntmps107
    go_wp2_with (first | (go_at_call 131; refine (rword_any _ _).mono ?_; rintro e w' ⟨rfl, rfl⟩) | (go_at_call 134; refine (rsymbol_any _ _).mono ?_; rintro e w' ⟨rfl, rfl⟩) | (go_at_call 132; refine (rresW_any _ _).mono ?_; rintro e w' ⟨rfl, rfl⟩)  | (go_at_call 135; refine (rresS_any _ _).mono ?_; rintro e w' ⟨rfl, rfl⟩) | (go_at_call 133; refine (rupper_any _ _).mono ?_; rintro e w' ⟨rfl, rfl⟩))
    all_goals (go_ret; exact ⟨ret_int' (by rw [HC.out]; simp_all), rfl⟩)
  · have hw : wordB s.data.toList = false := wordB_len (.inl (by omega))
    have hy : symbolB s.data.toList = false := symbolB_len (.inl (by omega))
    have HC : Hid (cls0 s.data.toList = 0) := Lib.hid (by simp [cls0, hw, hy])
    go_enter Tryz.func107, Tryz.ntmps107
    go_wp2_with (first | (go_at_call 131; refine (rword_any _ _).mono ?_; rintro e w' ⟨rfl, rfl⟩) | (go_at_call 134; refine (rsymbol_any _ _).mono ?_; rintro e w' ⟨rfl, rfl⟩))
    go_ret
    exact ⟨ret_int' HC.out, rfl⟩
theorem cls0_named (l : List UInt8) : named l = (cls0 l == 1 || cls0 l == 2 || cls0 l == 3 || cls0 l == 4) := by
  unfold named cls0 clsW clsS
  cases h : wordB l
  · cases h2 : symbolB l
    · simp
    · cases resS l
      · by_cases h3 : hd l = 58 <;> simp [h3]
      · simp
  · rw [word_not_symbol h]
    cases resW l
    · cases up (hd l) <;> simp
    · simp
theorem resW_low : ∀ l, resW l = true → up (hd l) = false := by
  intro l h
  simp only [resW, List.any_eq_true, beq_iff_eq] at h
  obtain ⟨x, hx, rfl⟩ := h
  have H : resWords.all (fun x => !up (hd x)) = true := by decide +kernel
  simpa using List.all_eq_true.1 H l hx
theorem cls0_con (l : List UInt8) : con l = (cls0 l == 2) := by
  unfold con cls0 clsW clsS
  cases h : wordB l
  · cases h2 : symbolB l
    · simp
    · cases resS l
      · by_cases h3 : hd l = 58 <;> simp [h3]
      · simp
  · cases hr : resW l
    · cases up (hd l) <;> simp
    · simp [resW_low l hr]
set_option maxHeartbeats 400000 in
theorem rNamed_any (s : ByteArray) (w : World) :
    Calls Tryz.prog 157 #[.string s] w fun e w' => e = .returned (.bool (named s.data.toList)) ∧ w = w' := by
  have HC := Lib.hid (cls0_named s.data.toList)
  go_enter Tryz.func157, Tryz.ntmps157
  go_wp2_with (first | (go_at_call 107; refine (rSimple_any _ _).mono ?_; rintro e w' ⟨rfl, rfl⟩))
  all_goals (go_ret; exact ⟨ret_bool (by rw [HC.out]; (try simp_all)), rfl⟩)
set_option maxHeartbeats 400000 in
theorem rJoin_any (s t : ByteArray) (w : World) (hs : s.size ≤ 1000000) (ht : t.size ≤ 1000000) :
    Calls Tryz.prog 171 #[.string s, .string t] w fun e w' => e = .returned (.string (joinB s t)) ∧ w = w' := by
  have HJ : Hid (joinB s t = if con s.data.toList && named t.data.toList then s ++ ⟨#[46]⟩ ++ t else ⟨#[]⟩) := Lib.hid rfl
  have HC := Lib.hid (cls0_con s.data.toList)
  go_enter Tryz.func171, Tryz.ntmps171
  go_wp2_with (first | (go_at_call 107; refine (rSimple_any _ _).mono ?_; rintro e w1 ⟨rfl, rfl⟩) | (go_at_call 157; refine (rNamed_any _ _).mono ?_; rintro e w1 ⟨rfl, rfl⟩))
  all_goals (go_ret; exact ⟨by rw [HJ.out, HC.out]; (try simp_all), rfl⟩)
/-- No dot among the first k bytes. -/
def NoDot (s : ByteArray) (k : Nat) : Prop := ∀ j, j < k → s.data.toList[j]? ≠ some 46
theorem NoDot.zero (s : ByteArray) : NoDot s 0 := fun _ h => absurd h (Nat.not_lt_zero _)
theorem get_eq {s : ByteArray} {k : Nat} (hk : k < s.size) : s.data.toList[k]? = some s[k] := by
  rw [List.getElem?_eq_getElem (by simpa using hk)]; rfl
theorem NoDot.next {s : ByteArray} {k : Nat} (h : NoDot s k) (hk : k < s.size) (hm : ((s[k].toNat : Int) != 46) = true) : NoDot s (k + 1) := by
  intro j hj
  by_cases e : j = k
  · subst e
    rw [get_eq hk]
    intro hc
    have := Option.some.inj hc
    rw [this] at hm
    simp at hm
  · exact h j (by omega)
theorem cut_dot {s : ByteArray} {k : Nat} (h : NoDot s k) (hk : k < s.size) (hm : ((s[k].toNat : Int) != 46) = false) : Lib.cut s.data.toList [46] = (s.data.toList.take k, s.data.toList.drop (k + 1), true) := by
  have hb : s.data.toList[k]? = some 46 := by
    rw [get_eq hk]
    have : ((s[k].toNat : Int) == (46 : Nat)) = true := by simpa using hm
    rw [byte_eq _ 46 (by omega)] at this
    simp at this
    rw [this]
  have hi : Lib.index s.data.toList [46] = (k : Int) := by
    rw [Lib.index_one]
    rcases Int.lt_or_le (Lib.indexByte s.data.toList 46) 0 with hn | hn
    · have := Lib.indexByte_ge s.data.toList 46
      exact absurd hb (Lib.indexByte_none (by omega) k)
    · obtain ⟨o, ho⟩ := Int.eq_ofNat_of_zero_le hn
      obtain ⟨h1, h2⟩ := Lib.indexByte_some ho
      rw [ho]
      by_cases hlt : o < k
      · exact absurd h1 (h o hlt)
      · by_cases hgt : k < o
        · exact absurd hb (h2 k hgt)
        · have : o = k := by omega
          rw [this]
  unfold Lib.cut
  rw [hi, if_pos (by omega)]
  simp
theorem cut_nodot {s : ByteArray} {k : Nat} (h : NoDot s k) (hk : s.size ≤ k) : Lib.cut s.data.toList [46] = (s.data.toList, [], false) := by
  have hi : Lib.index s.data.toList [46] < 0 := by
    rw [Lib.index_one]
    rcases Int.lt_or_le (Lib.indexByte s.data.toList 46) 0 with hn | hn
    · exact hn
    · exfalso
      obtain ⟨o, ho⟩ := Int.eq_ofNat_of_zero_le hn
      obtain ⟨h1, h2⟩ := Lib.indexByte_some ho
      have hl : o < s.data.toList.length := (List.getElem?_eq_some_iff.1 h1).1
      rw [← Lib.size_eq] at hl
      exact h o (by omega) h1
  unfold Lib.cut
  rw [if_neg (by omega)]
theorem spl_nodot {s : ByteArray} {k : Nat} (h : NoDot s k) (hk : s.size ≤ k) : spl s.data.toList = false := by
  unfold spl
  rw [cut_nodot h hk]
  simp [named, wordB, symbolB]
theorem joinB_none {s t : ByteArray} (h : (con s.data.toList && named t.data.toList) = false) : joinB s t = ⟨#[]⟩ := by rw [joinB, h]; rfl
theorem joinB_some {s t : ByteArray} (h : (con s.data.toList && named t.data.toList) = true) : joinB s t = s ++ ⟨#[46]⟩ ++ t := by rw [joinB, h]; rfl
theorem rJoin_v (s t j : ByteArray) (w : World) (hs : s.size ≤ 1000000) (ht : t.size ≤ 1000000) (h : joinB s t = j) :
    Calls Tryz.prog 171 #[.string s, .string t] w fun e w' => e = .returned (.string j) ∧ w = w' := h ▸ rJoin_any s t w hs ht
theorem extract_mk (s : ByteArray) (k : Nat) : s.extract 0 k = ⟨(s.data.toList.take k).toArray⟩ := by rw [Lib.extract_eq]; simp
theorem extract_mk' (s : ByteArray) (k : Nat) : s.extract (k + 1) s.size = ⟨(s.data.toList.drop (k + 1)).toArray⟩ := by
  rw [Lib.extract_eq, List.take_of_length_le]
  simp
set_option maxHeartbeats 1000000 in
theorem rSplit_any (s : ByteArray) (w : World) (hs : s.size ≤ 1000000) :
    Calls Tryz.prog 156 #[.string s] w fun e w' => e = .returned (.tuple #[.string (spM s), .string (spN s), .bool (spl s.data.toList)]) ∧ Below w.heap.size w w' := by
  have HM : Hid (spM s = if spl s.data.toList then ⟨(Lib.cut s.data.toList [46]).1.toArray⟩ else ⟨#[]⟩) := Lib.hid rfl
  have HN : Hid (spN s = if spl s.data.toList then ⟨(Lib.cut s.data.toList [46]).2.1.toArray⟩ else ⟨#[]⟩) := Lib.hid rfl
  have HS : Hid (spl s.data.toList = (con (Lib.cut s.data.toList [46]).1 && named (Lib.cut s.data.toList [46]).2.1)) := Lib.hid rfl
  go_enter Tryz.func156, Tryz.ntmps156
  go_wp2
  go_loop [5] (fun i => ∃ k : Nat, k ≤ s.size ∧ i = .int .i64 k ∧ NoDot s k) (fun i => s.size - (intOf i).toNat)
  case atStart => exact ⟨0, by omega, rfl, NoDot.zero s⟩
  case round =>
    obtain ⟨k, hk, rfl, hno⟩ := hrel
    by_cases hlt : k < s.size
    · cases hm : ((s[k].toNat : Int) != 46)
      · have hcut := cut_dot hno hlt hm
        have hk1 : k + 1 ≤ s.size := hlt
        have z1 : (s.extract 0 k).size ≤ 1000000 := by simp; omega
        have z2 : (s.extract (k + 1) s.size).size ≤ 1000000 := by simp; omega
        have Z1 := Lib.hid z1
        have Z2 := Lib.hid z2
        clear z1 z2
        have HD : Hid (s.extract 0 k = ⟨(s.data.toList.take k).toArray⟩) := Lib.hid (extract_mk s k)
        have HE : Hid (s.extract (k + 1) s.size = ⟨(s.data.toList.drop (k + 1)).toArray⟩) := Lib.hid (extract_mk' s k)
        have HX := Lib.hid hcut
        clear hcut
        cases hj : (con (s.extract 0 k).data.toList && named (s.extract (k + 1) s.size).data.toList)
        · have H : Hid (spl s.data.toList = false) := Lib.hid (by rw [HS.out, HX.out]; rw [HD.out, HE.out] at hj; exact hj)
          have HJ := Lib.hid (joinB_none hj)
          clear hj
          go_wp2
          go_quiet ((go_at_call 171; exact Calls.quiet_of_same ((rJoin_v _ _ _ _ Z1.out Z2.out HJ.out).mono fun _ _ h => ⟨h.1, h.2.symm⟩)))
          go_wp2
          go_ret3
          exact ⟨by rw [HM.out, HN.out, H.out]; rfl, below_drewN (Below.refl _ _) _⟩
        · have H : Hid (spl s.data.toList = true) := Lib.hid (by rw [HS.out, HX.out]; rw [HD.out, HE.out] at hj; exact hj)
          have HJ := Lib.hid (joinB_some hj)
          clear hj
          have HQ : (s.extract 0 k ++ ⟨#[46]⟩ ++ s.extract (k + 1) s.size).toList.isEmpty = false := by
            rw [Lib.toList_data, app_data, app_data]; simp
          go_wp2
          go_quiet ((go_at_call 171; exact Calls.quiet_of_same ((rJoin_v _ _ _ _ Z1.out Z2.out HJ.out).mono fun _ _ h => ⟨h.1, h.2.symm⟩)))
          go_wp2
          go_quiet (fail)
          go_wp2
          go_ret3
          exact ⟨by rw [HM.out, HN.out, H.out, HX.out, HD.out, HE.out]; rfl, below_drewN (below_drewN (Below.refl _ _) _) _⟩
      · go_wp2
        exact ⟨⟨k + 1, by omega, by go_num, hno.next hlt hm⟩, by simp [intOf]; omega⟩
    · have H := Lib.hid (spl_nodot hno (show s.size ≤ k by omega))
      go_wp2
      go_ret3
      exact ⟨by rw [HM.out, HN.out, H.out]; rfl, Below.refl _ _⟩
end Go.Proofs.YtelichlplblboaaGreatDoor
namespace Go.Proofs.YtelichlplblboaaGreatDoor
open Go.RowKit
theorem dgS {s : ByteArray} {k : Nat} (h : k < s.size) : dgB s[k] = dg (s[k].toNat : Int) := rfl
theorem numOf_empty {s : ByteArray} (h : s.size = 0) : numOf s.data.toList = none := by
  rw [numOf_eq, if_neg]
  rintro ⟨hc, _⟩
  rw [Lib.size_eq] at h
  simp [canon, h] at hc
theorem numOf_zero {s : ByteArray} (h : 1 < s.size) (h0 : ((s[0].toNat : Int) == 48) = true) : numOf s.data.toList = none := by
  rw [numOf_eq, if_neg]
  rintro ⟨hc, _⟩
  simp only [canon, Bool.and_eq_true, Bool.or_eq_true, decide_eq_true_eq] at hc
  have e : s.data.toList.head? = some 48 := by
    rw [List.head?_eq_getElem?, get_eq (by omega)]
    have : ((s[0].toNat : Int) == (48 : Nat)) = true := h0
    rw [byte_eq _ 48 (by omega)] at this
    simp at this
    rw [this]
  rw [Lib.size_eq] at h
  rcases hc.2 with h1 | h1
  · exact h1 e
  · omega
theorem numOf_stop {s : ByteArray} {k : Nat} (h : k < s.size) (hd : dg (s[k].toNat : Int) = false) : numOf s.data.toList = none := by
  rw [numOf_eq, if_neg]
  rintro ⟨hc, _⟩
  simp only [canon, Bool.and_eq_true] at hc
  have := all_stop h (p := dgB) hd
  rw [hc.1.2] at this
  cases this
theorem vl_mono (a b : List UInt8) : vl a ≤ vl (a ++ b) := by
  have key : ∀ (r : List UInt8) (a : Nat), a ≤ r.foldl (fun a c => a * 10 + (c.toNat - 48)) a := by
    intro r
    induction r with
    | nil => intro a; exact Nat.le_refl _
    | cons c r ih => intro a; exact Nat.le_trans (show a ≤ a * 10 + (c.toNat - 48) by omega) (ih _)
  unfold vl
  rw [List.foldl_append]
  exact key b _
theorem vl_step {s : ByteArray} {k : Nat} (h : k < s.size) : vl (s.data.toList.take (k + 1)) = vl (s.data.toList.take k) * 10 + (s[k].toNat - 48) := by
  rw [take_snoc s k h, vl_snoc]
theorem numOf_big {s : ByteArray} {k : Nat} (_h : k < s.size) (hb : 9223372036854775807 < vl (s.data.toList.take (k + 1))) : numOf s.data.toList = none := by
  rw [numOf_eq, if_neg]
  rintro ⟨_, hv⟩
  have := vl_mono (s.data.toList.take (k + 1)) (s.data.toList.drop (k + 1))
  rw [List.take_append_drop] at this
  omega
theorem numOf_end {s : ByteArray} (h0 : 1 ≤ s.size) (h1 : s.size = 1 ∨ (((if _h : 0 < s.size then (s[0].toNat : Int) else 0) == 48) = false)) {k : Nat} (hk : s.size ≤ k) (ha : (s.data.toList.take k).all dgB = true) (hv : vl (s.data.toList.take k) ≤ 9223372036854775807) :
    numOf s.data.toList = some (vl (s.data.toList.take k) : Int) := by
  rw [take_end hk] at ha hv ⊢
  rw [numOf_eq, if_pos]
  refine ⟨?_, hv⟩
  simp only [canon, Bool.and_eq_true, Bool.or_eq_true, decide_eq_true_eq]
  refine ⟨⟨by rw [← Lib.size_eq]; exact h0, ha⟩, ?_⟩
  rcases h1 with h1 | h1
  · exact .inr (by rw [← Lib.size_eq]; exact h1)
  · left
    intro e
    rw [List.head?_eq_getElem?, get_eq (show 0 < s.size from h0)] at e
    have e2 := Option.some.inj e
    rw [dif_pos (show 0 < s.size from h0), e2] at h1
    simp at h1
set_option maxRecDepth 100000 in
set_option maxHeartbeats 1000000 in
theorem rnumber_any (s : ByteArray) (w : World) (hs : s.size ≤ 1000000) :
    Calls Tryz.prog 137 #[.string s] w fun e w' => e = .returned (.tuple #[.int .i64 ((numOf s.data.toList).getD 0), .bool (numOf s.data.toList).isSome]) ∧ w = w' := by
  have HT := Lib.hid (Lib.toList_data s)
  by_cases hz : s.size = 0
  · have e0 : s.toList.isEmpty = true := by rw [HT.out, List.isEmpty_iff, ← List.length_eq_zero_iff, ← Lib.size_eq]; exact hz
    have HN := Lib.hid (numOf_empty hz)
    clear hz
    go_enter Tryz.func137, Tryz.ntmps137
    go_wp2
    go_ret2
    exact ⟨by rw [HN.out]; rfl, rfl⟩
  · have h0 : 0 < s.size := by omega
    have h01 : 1 ≤ s.size := h0
    have e0 : s.toList.isEmpty = false := by
      rw [HT.out, List.isEmpty_eq_false_iff, ← List.length_pos_iff, ← Lib.size_eq]; exact h0
    clear hz
    by_cases hzz : ((s[0].toNat : Int) == 48) = true ∧ 1 < s.size
    · obtain ⟨hc, hl⟩ := hzz
      have HN := Lib.hid (numOf_zero hl hc)
      have e1 : decide (1 < (s.size : Int)) = true := by simp; omega
      go_enter Tryz.func137, Tryz.ntmps137
      go_wp2
      go_ret2
      exact ⟨by rw [HN.out]; rfl, rfl⟩
    · have hor : s.size = 1 ∨ (((if _h : 0 < s.size then (s[0].toNat : Int) else 0) == 48) = false) := by
        rw [dif_pos h0]
        by_cases h1 : s.size = 1
        · exact .inl h1
        · right
          cases hcc : ((s[0].toNat : Int) == 48)
          · rfl
          · exact absurd ⟨hcc, by omega⟩ hzz
      have HOR := Lib.hid hor
      have hcases : (((s[0].toNat : Int) == 48) = false) ∨ ((((s[0].toNat : Int) == 48) = true) ∧ decide (1 < (s.size : Int)) = false) := by
        cases hcc : ((s[0].toNat : Int) == 48)
        · exact .inl rfl
        · right
          refine ⟨rfl, ?_⟩
          have : ¬ 1 < s.size := fun h => hzz ⟨hcc, h⟩
          simp; omega
      clear hzz hor
      rcases hcases with hc | ⟨hc, hc2⟩
      all_goals
        go_enter Tryz.func137, Tryz.ntmps137
        go_wp2
        go_loop [4, 5, 6] (fun n i _ => ∃ k : Nat, k ≤ s.size ∧ i = .int .i64 k ∧ n = .int .i64 (vl (s.data.toList.take k)) ∧ (s.data.toList.take k).all dgB = true ∧ vl (s.data.toList.take k) ≤ 9223372036854775807) (fun _ i _ => s.size - (intOf i).toNat)
        case atStart => exact ⟨0, by omega, rfl, rfl, rfl, Nat.zero_le _⟩
        case round =>
          obtain ⟨k, hk, rfl, rfl, hno, hmx⟩ := hrel
          have HN := Lib.hid hno
          have HX := Lib.hid hmx
          obtain ⟨t, ht⟩ : ∃ t, t = vl (s.data.toList.take k) := ⟨_, rfl⟩
          rw [← ht] at hmx ⊢
          by_cases hlt : k < s.size
          · have HV := Lib.hid (vl_step hlt)
            cases hd : dg (s[k].toNat : Int)
            · have HS := Lib.hid (numOf_stop hlt hd)
              have HT2 := Lib.hid ht
              clear hno ht
              go_wp2_with (first | (go_at_call 154; refine (rdigit_any _ _).mono ?_; rintro e w' ⟨rfl, rfl⟩))
              go_ret2
              exact ⟨by rw [HS.out]; rfl, rfl⟩
            · have hD : dgB s[k] = true := hd
              have hcd := (dgB_iff _).1 hD
              obtain ⟨hc0, hc1⟩ := hcd
              have HD := Lib.hid hD
              have HT2 := Lib.hid ht
              have c0 : (48 : Int) ≤ (s[k].toNat : Int) := by omega
              have c1 : (s[k].toNat : Int) ≤ 57 := by omega
              clear hno ht hD hc0 hc1
              go_wp2_with (first | (go_at_call 154; refine (rdigit_any _ _).mono ?_; rintro e w' ⟨rfl, rfl⟩))
              · have hbig : (9223372036854775807 - ((s[k].toNat : Int) - 48)) / 10 < (t : Int) := by assumption
                have HB := Lib.hid (numOf_big hlt (by rw [HV.out, ← HT2.out]; omega))
                go_ret2
                exact ⟨by rw [HB.out]; rfl, rfl⟩
              · have hle : (t : Int) ≤ (9223372036854775807 - ((s[k].toNat : Int) - 48)) / 10 := by assumption
                exact ⟨⟨k + 1, by omega, by go_num, val_int (by rw [HV.out, ← HT2.out]; omega), all_step hlt HD.out HN.out, by rw [HV.out, ← HT2.out]; omega⟩, by simp [intOf]; omega⟩
          · have HS := Lib.hid (numOf_end h01 HOR.out (show s.size ≤ k by omega) HN.out HX.out)
            have HT2 := Lib.hid ht
            clear hno ht
            go_wp2
            go_ret2
            exact ⟨by rw [HS.out, ← HT2.out]; rfl, rfl⟩
set_option maxRecDepth 100000 in
set_option maxHeartbeats 400000 in
theorem rStem_any (s : ByteArray) (W w : World) (hs : s.size ≤ 1000000) (hq : Q W w) :
    Calls Tryz.prog 136 #[.string s] w fun e w' => e = .returned (.bool (stem s.data.toList)) ∧ Q W w' := by
  have HS : Hid (stem s.data.toList = (named s.data.toList || spl s.data.toList)) := Lib.hid rfl
  go_enter Tryz.func136, Tryz.ntmps136
  go_wp2_with (first | (go_at_call 156; refine (rSplit_any _ _ hs).mono ?_; rintro e w2 ⟨rfl, hb2⟩; have hq2 := hq.below hb2) | (go_at_call 157; refine (rNamed_any _ _).mono ?_; rintro e w3 ⟨rfl, rfl⟩))
  all_goals (go_ret; exact ⟨ret_bool (by rw [HS.out]; simp_all), hq2⟩)
theorem lastIdx_step {s : ByteArray} {k : Nat} (h : k < s.size) : Lib.lastIdx s 36 (k + 1) = if ((s[k].toNat : Int) == 36) = true then (k : Int) else Lib.lastIdx s 36 k := by
  have e : s.data[k]! = s[k] := by
    rw [getElem!_pos s.data k h]; rfl
  rw [Lib.lastIdx, e]
  simp
theorem lix_end {s : ByteArray} {k : Nat} (h : k ≤ s.size) (h2 : s.size ≤ k) : Lib.lastIdx s 36 k = lix s := by
  have : k = s.size := by omega
  rw [this]; rfl
theorem rStem_v (s : ByteArray) (v : Bool) (W w : World) (hs : s.size ≤ 1000000) (h : stem s.data.toList = v) (hq : Q W w) :
    Calls Tryz.prog 136 #[.string s] w fun e w' => e = .returned (.bool v) ∧ Q W w' := h ▸ rStem_any s W w hs hq
theorem rnumber_v (s : ByteArray) (o : Option Int) (w : World) (hs : s.size ≤ 1000000) (h : numOf s.data.toList = o) :
    Calls Tryz.prog 137 #[.string s] w fun e w' => e = .returned (.tuple #[.int .i64 (o.getD 0), .bool o.isSome]) ∧ w = w' := h ▸ rnumber_any s w hs
set_option maxRecDepth 100000 in
set_option maxHeartbeats 1000000 in
theorem rBase_any (s : ByteArray) (W w : World) (hs : s.size ≤ 1000000) (hq : Q W w) :
    Calls Tryz.prog 108 #[.string s] w fun e w' => e = .returned (basR (basO s)) ∧ Q W w' := by
  go_enter Tryz.func108, Tryz.ntmps108
  go_wp2
  go_loop [5, 6] (fun a i => ∃ (k : Nat) (v : Int), k ≤ s.size ∧ i = .int .i64 k ∧ a = .int .i64 v ∧ Hid (v = Lib.lastIdx s 36 k)) (fun _ i => s.size - (intOf i).toNat)
  case atStart => exact ⟨0, -1, by omega, rfl, rfl, Lib.hid rfl⟩
  case round =>
    obtain ⟨k, v, hk, rfl, rfl, HV⟩ := hrel
    by_cases hlt : k < s.size
    · have HL := Lib.hid (lastIdx_step hlt)
      cases hm : ((s[k].toNat : Int) == 36)
      · have HM := Lib.hid hm
        go_wp2
        exact ⟨⟨k + 1, v, by omega, by go_num, rfl, Lib.hid (by rw [HL.out, HM.out, HV.out]; rfl)⟩, by simp [intOf]; omega⟩
      · have HM := Lib.hid hm
        go_wp2
        exact ⟨⟨k + 1, k, by omega, by go_num, rfl, Lib.hid (by rw [HL.out, HM.out]; rfl)⟩, by simp [intOf]; omega⟩
    · have hve : v = lix s := by rw [HV.out]; exact lix_end hk (by omega)
      rcases lix_cases s with h | ⟨i, hi, h⟩
      · obtain rfl : v = -1 := hve.trans h
        have HB : Hid (basR (basO s) = .tuple #[.string ⟨#[]⟩, .int .i64 0, .bool false]) := Lib.hid (by simp [basO, h, basR])
        clear hve h HV
        go_wp2
        go_ret3
        exact ⟨by rw [HB.out]; rfl, hq⟩
      · obtain rfl : v = (i : Int) := hve.trans h
        have z1 : (s.extract 0 i).size ≤ 1000000 := by simp; omega
        have z2 : (s.extract (i + 1) s.size).size ≤ 1000000 := by simp; omega
        have Z1 := Lib.hid z1
        have Z2 := Lib.hid z2
        have hi2 : i + 1 ≤ s.size := hi
        have e0 : decide ((i : Int) < 0) = false := by simp
        clear hve z1 z2 HV
        cases hst : stem (s.extract 0 i).data.toList
        · have HB : Hid (basR (basO s) = .tuple #[.string ⟨#[]⟩, .int .i64 0, .bool false]) := Lib.hid (by simp only [basO, h, Int.toNat_natCast, hst]; simp [basR])
          have HST := Lib.hid hst
          clear h hst
          go_wp2_with (first | (go_at_call 136; refine (rStem_v _ _ _ _ Z1.out HST.out hq).mono ?_; rintro e w1 ⟨rfl, hq1⟩))
          go_ret3
          exact ⟨by rw [HB.out]; rfl, hq1⟩
        · cases hn : numOf (s.extract (i + 1) s.size).data.toList with
          | none =>
            have HB : Hid (basR (basO s) = .tuple #[.string ⟨#[]⟩, .int .i64 0, .bool false]) := Lib.hid (by simp only [basO, h, Int.toNat_natCast, hst, hn]; simp [basR])
            have HN := Lib.hid hn
            have HST := Lib.hid hst
            clear h hn hst
            go_wp2_with (first | (go_at_call 136; refine (rStem_v _ _ _ _ Z1.out HST.out hq).mono ?_; rintro e w1 ⟨rfl, hq1⟩) | (go_at_call 137; refine (rnumber_v _ _ _ Z2.out HN.out).mono ?_; rintro e w2 ⟨rfl, rfl⟩))
            go_ret3
            exact ⟨by rw [HB.out]; rfl, hq1⟩
          | some n =>
            have HB : Hid (basR (basO s) = .tuple #[.string (s.extract 0 i), .int .i64 n, .bool true]) := Lib.hid (by simp only [basO, h, Int.toNat_natCast, hst, hn, if_neg (show ¬ (i : Int) < 0 by omega)]; simp [basR])
            have HN := Lib.hid hn
            have HST := Lib.hid hst
            clear h hn hst
            go_wp2_with (first | (go_at_call 136; refine (rStem_v _ _ _ _ Z1.out HST.out hq).mono ?_; rintro e w1 ⟨rfl, hq1⟩) | (go_at_call 137; refine (rnumber_v _ _ _ Z2.out HN.out).mono ?_; rintro e w2 ⟨rfl, rfl⟩))
            go_ret3
            exact ⟨by rw [HB.out]; rfl, hq1⟩
theorem cls_cls0 (s : ByteArray) : cls s = if cls0 s.data.toList = 0 then (if (basO s).isSome then 7 else 0) else cls0 s.data.toList := by
  unfold cls cls0 clsW clsS
  cases h1 : wordB s.data.toList
  · cases h2 : symbolB s.data.toList
    · simp
    · cases resS s.data.toList
      · by_cases h3 : hd s.data.toList = 58 <;> simp [h3]
      · simp
  · cases resW s.data.toList
    · cases up (hd s.data.toList) <;> simp
    · simp
set_option maxRecDepth 100000 in
set_option maxHeartbeats 1000000 in
theorem rClassify_any (s : ByteArray) (W w : World) (hs : s.size ≤ 1000000) (hq : Q W w) :
    Calls Tryz.prog 78 #[.string s] w fun e w' => e = .returned (.int .i64 (cls s)) ∧ Q W w' := by
  have HC := Lib.hid (cls_cls0 s)
  by_cases h0 : cls0 s.data.toList = 0
  · have e0 : (cls0 s.data.toList != 0) = false := by simp [h0]
    cases hb : basO s with
    | none =>
      have HN : Hid (cls s = 0) := Lib.hid (by rw [HC.out, if_pos h0, hb]; rfl)
      have HB : Hid (basR (basO s) = .tuple #[.string ⟨#[]⟩, .int .i64 0, .bool false]) := Lib.hid (by rw [hb]; rfl)
      clear h0 hb
      go_enter Tryz.func78, Tryz.ntmps78
      go_wp2_with (first | (go_at_call 107; refine (rSimple_any _ _).mono ?_; rintro e w' ⟨rfl, rfl⟩) | (go_at_call 108; refine (rBase_any _ _ _ hs hq).mono ?_; rintro e w1 ⟨rfl, hq1⟩; rw [HB.out]))
      go_ret
      exact ⟨ret_int' HN.out, hq1⟩
    | some p =>
      have HN : Hid (cls s = 7) := Lib.hid (by rw [HC.out, if_pos h0, hb]; rfl)
      have HB : Hid (basR (basO s) = .tuple #[.string p.1, .int .i64 p.2, .bool true]) := Lib.hid (by rw [hb]; rfl)
      clear h0 hb
      go_enter Tryz.func78, Tryz.ntmps78
      go_wp2_with (first | (go_at_call 107; refine (rSimple_any _ _).mono ?_; rintro e w' ⟨rfl, rfl⟩) | (go_at_call 108; refine (rBase_any _ _ _ hs hq).mono ?_; rintro e w1 ⟨rfl, hq1⟩; rw [HB.out]))
      go_ret
      exact ⟨ret_int' HN.out, hq1⟩
  · have e0 : (cls0 s.data.toList != 0) = true := by simp [h0]
    have HN : Hid (cls s = cls0 s.data.toList) := Lib.hid (by rw [HC.out, if_neg h0])
    clear h0
    go_enter Tryz.func78, Tryz.ntmps78
    go_wp2_with (first | (go_at_call 107; refine (rSimple_any _ _).mono ?_; rintro e w' ⟨rfl, rfl⟩))
    go_ret
    exact ⟨ret_int' HN.out, hq⟩
end Go.Proofs.YtelichlplblboaaGreatDoor
