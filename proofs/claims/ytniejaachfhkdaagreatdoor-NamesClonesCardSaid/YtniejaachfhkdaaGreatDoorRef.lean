/-
  WALKS. The reference of package names: Simple, Named, Join, Split.
-/
import Derived.Test.YtniejaachfhkdaaGreatDoorNames3
import Derived.Lib.IndexBytes
import Derived.Lib.IndexLaws
import Derived.Deep.QuietTactic
import Derived.BigQuiet
namespace Go.Proofs.YtniejaachfhkdaaGreatDoor
open Go.RowKit
def cls0 (l : List UInt8) : Int := if wordB l then clsW l else if symbolB l then clsS l else 0
theorem ret_int' {k : IntKind} {a b : Int} (h : b = a) : Ending.returned (.int k a) = Ending.returned (.int k b) := by rw [h]
set_option maxHeartbeats 400000 in
theorem rSimple_any (s : ByteArray) (w : World) :
    Calls Tryz.prog 39 #[.string s] w fun e w' => e = .returned (.int .i64 (cls0 s.data.toList)) ∧ w = w' := by
  by_cases h0 : 0 < s.size
  · have HC : Hid (cls0 s.data.toList = if wordB s.data.toList then (if resW s.data.toList then (5 : Int) else if up (s[0].toNat : Int) then (2 : Int) else (1 : Int)) else if symbolB s.data.toList then (if resS s.data.toList then (6 : Int) else if (s[0].toNat : Int) = 58 then (4 : Int) else (3 : Int)) else (0 : Int)) := Lib.hid (by rw [cls0, clsW, clsS, hd_eq h0])
    go_enter Tryz.func39, Tryz.ntmps39
    go_wp2_with (first | (go_at_call 76; refine (rword_any _ _).mono ?_; rintro e w' ⟨rfl, rfl⟩) | (go_at_call 79; refine (rsymbol_any _ _).mono ?_; rintro e w' ⟨rfl, rfl⟩) | (go_at_call 77; refine (rresW_any _ _).mono ?_; rintro e w' ⟨rfl, rfl⟩)  | (go_at_call 80; refine (rresS_any _ _).mono ?_; rintro e w' ⟨rfl, rfl⟩) | (go_at_call 78; refine (rupper_any _ _).mono ?_; rintro e w' ⟨rfl, rfl⟩))
    all_goals (go_ret; exact ⟨ret_int' (by rw [HC.out]; simp_all), rfl⟩)
  · have hw : wordB s.data.toList = false := wordB_len (.inl (by omega))
    have hy : symbolB s.data.toList = false := symbolB_len (.inl (by omega))
    have HC : Hid (cls0 s.data.toList = 0) := Lib.hid (by simp [cls0, hw, hy])
    go_enter Tryz.func39, Tryz.ntmps39
    go_wp2_with (first | (go_at_call 76; refine (rword_any _ _).mono ?_; rintro e w' ⟨rfl, rfl⟩) | (go_at_call 79; refine (rsymbol_any _ _).mono ?_; rintro e w' ⟨rfl, rfl⟩))
    go_ret
    exact ⟨ret_int' HC.out, rfl⟩
theorem cls0_named (l : List UInt8) : named l = (cls0 l == 1 || cls0 l == 2 || cls0 l == 3 || cls0 l == 4) := by
  unfold named cls0 clsW clsS
  cases h : wordB l
  · cases h2 : symbolB l
    · simp
    · cases resS l
      · by_cases h3 : hd l = 58 <;> simp [h3]
      · simp
  · rw [word_not_symbol h]
    cases resW l
    · cases up (hd l) <;> simp
    · simp
theorem resW_low : ∀ l, resW l = true → up (hd l) = false := by
  intro l h
  simp only [resW, List.any_eq_true, beq_iff_eq] at h
  obtain ⟨x, hx, rfl⟩ := h
  have H : resWords.all (fun x => !up (hd x)) = true := by decide +kernel
  simpa using List.all_eq_true.1 H l hx
theorem cls0_con (l : List UInt8) : con l = (cls0 l == 2) := by
  unfold con cls0 clsW clsS
  cases h : wordB l
  · cases h2 : symbolB l
    · simp
    · cases resS l
      · by_cases h3 : hd l = 58 <;> simp [h3]
      · simp
  · cases hr : resW l
    · cases up (hd l) <;> simp
    · simp [resW_low l hr]
set_option maxHeartbeats 400000 in
theorem rNamed_any (s : ByteArray) (w : World) :
    Calls Tryz.prog 84 #[.string s] w fun e w' => e = .returned (.bool (named s.data.toList)) ∧ w = w' := by
  have HC := Lib.hid (cls0_named s.data.toList)
  go_enter Tryz.func84, Tryz.ntmps84
  go_wp2_with (first | (go_at_call 39; refine (rSimple_any _ _).mono ?_; rintro e w' ⟨rfl, rfl⟩))
  all_goals (go_ret; exact ⟨ret_bool (by rw [HC.out]; (try simp_all)), rfl⟩)
set_option maxHeartbeats 400000 in
theorem rJoin_any (s t : ByteArray) (w : World) (hs : s.size ≤ 1000000) (ht : t.size ≤ 1000000) :
    Calls Tryz.prog 138 #[.string s, .string t] w fun e w' => e = .returned (.string (joinB s t)) ∧ w = w' := by
  have HJ : Hid (joinB s t = if con s.data.toList && named t.data.toList then s ++ ⟨#[46]⟩ ++ t else ⟨#[]⟩) := Lib.hid rfl
  have HC := Lib.hid (cls0_con s.data.toList)
  go_enter Tryz.func138, Tryz.ntmps138
  go_wp2_with (first | (go_at_call 39; refine (rSimple_any _ _).mono ?_; rintro e w1 ⟨rfl, rfl⟩) | (go_at_call 84; refine (rNamed_any _ _).mono ?_; rintro e w1 ⟨rfl, rfl⟩))
  all_goals (go_ret; exact ⟨by rw [HJ.out, HC.out]; (try simp_all), rfl⟩)
/-- No dot among the first k bytes. -/
def NoDot (s : ByteArray) (k : Nat) : Prop := ∀ j, j < k → s.data.toList[j]? ≠ some 46
theorem NoDot.zero (s : ByteArray) : NoDot s 0 := fun _ h => absurd h (Nat.not_lt_zero _)
theorem get_eq {s : ByteArray} {k : Nat} (hk : k < s.size) : s.data.toList[k]? = some s[k] := by
  rw [List.getElem?_eq_getElem (by simpa using hk)]; rfl
theorem NoDot.next {s : ByteArray} {k : Nat} (h : NoDot s k) (hk : k < s.size) (hm : ((s[k].toNat : Int) != 46) = true) : NoDot s (k + 1) := by
  intro j hj
  by_cases e : j = k
  · subst e
    rw [get_eq hk]
    intro hc
    have := Option.some.inj hc
    rw [this] at hm
    simp at hm
  · exact h j (by omega)
theorem cut_dot {s : ByteArray} {k : Nat} (h : NoDot s k) (hk : k < s.size) (hm : ((s[k].toNat : Int) != 46) = false) : Lib.cut s.data.toList [46] = (s.data.toList.take k, s.data.toList.drop (k + 1), true) := by
  have hb : s.data.toList[k]? = some 46 := by
    rw [get_eq hk]
    have : ((s[k].toNat : Int) == (46 : Nat)) = true := by simpa using hm
    rw [byte_eq _ 46 (by omega)] at this
    simp at this
    rw [this]
  have hi : Lib.index s.data.toList [46] = (k : Int) := by
    rw [Lib.index_one]
    rcases Int.lt_or_le (Lib.indexByte s.data.toList 46) 0 with hn | hn
    · have := Lib.indexByte_ge s.data.toList 46
      exact absurd hb (Lib.indexByte_none (by omega) k)
    · obtain ⟨o, ho⟩ := Int.eq_ofNat_of_zero_le hn
      obtain ⟨h1, h2⟩ := Lib.indexByte_some ho
      rw [ho]
      by_cases hlt : o < k
      · exact absurd h1 (h o hlt)
      · by_cases hgt : k < o
        · exact absurd hb (h2 k hgt)
        · have : o = k := by omega
          rw [this]
  unfold Lib.cut
  rw [hi, if_pos (by omega)]
  simp
theorem cut_nodot {s : ByteArray} {k : Nat} (h : NoDot s k) (hk : s.size ≤ k) : Lib.cut s.data.toList [46] = (s.data.toList, [], false) := by
  have hi : Lib.index s.data.toList [46] < 0 := by
    rw [Lib.index_one]
    rcases Int.lt_or_le (Lib.indexByte s.data.toList 46) 0 with hn | hn
    · exact hn
    · exfalso
      obtain ⟨o, ho⟩ := Int.eq_ofNat_of_zero_le hn
      obtain ⟨h1, h2⟩ := Lib.indexByte_some ho
      have hl : o < s.data.toList.length := (List.getElem?_eq_some_iff.1 h1).1
      rw [← Lib.size_eq] at hl
      exact h o (by omega) h1
  unfold Lib.cut
  rw [if_neg (by omega)]
theorem spl_nodot {s : ByteArray} {k : Nat} (h : NoDot s k) (hk : s.size ≤ k) : spl s.data.toList = false := by
  unfold spl
  rw [cut_nodot h hk]
  simp [named, wordB, symbolB]
theorem joinB_none {s t : ByteArray} (h : (con s.data.toList && named t.data.toList) = false) : joinB s t = ⟨#[]⟩ := by rw [joinB, h]; rfl
theorem joinB_some {s t : ByteArray} (h : (con s.data.toList && named t.data.toList) = true) : joinB s t = s ++ ⟨#[46]⟩ ++ t := by rw [joinB, h]; rfl
theorem rJoin_v (s t j : ByteArray) (w : World) (hs : s.size ≤ 1000000) (ht : t.size ≤ 1000000) (h : joinB s t = j) :
    Calls Tryz.prog 138 #[.string s, .string t] w fun e w' => e = .returned (.string j) ∧ w = w' := h ▸ rJoin_any s t w hs ht
theorem extract_mk (s : ByteArray) (k : Nat) : s.extract 0 k = ⟨(s.data.toList.take k).toArray⟩ := by rw [Lib.extract_eq]; simp
theorem extract_mk' (s : ByteArray) (k : Nat) : s.extract (k + 1) s.size = ⟨(s.data.toList.drop (k + 1)).toArray⟩ := by
  rw [Lib.extract_eq, List.take_of_length_le]
  simp
set_option maxHeartbeats 1000000 in
theorem rSplit_any (s : ByteArray) (w : World) (hs : s.size ≤ 1000000) :
    Calls Tryz.prog 83 #[.string s] w fun e w' => e = .returned (.tuple #[.string (spM s), .string (spN s), .bool (spl s.data.toList)]) ∧ Below w.heap.size w w' := by
  have HM : Hid (spM s = if spl s.data.toList then ⟨(Lib.cut s.data.toList [46]).1.toArray⟩ else ⟨#[]⟩) := Lib.hid rfl
  have HN : Hid (spN s = if spl s.data.toList then ⟨(Lib.cut s.data.toList [46]).2.1.toArray⟩ else ⟨#[]⟩) := Lib.hid rfl
  have HS : Hid (spl s.data.toList = (con (Lib.cut s.data.toList [46]).1 && named (Lib.cut s.data.toList [46]).2.1)) := Lib.hid rfl
  go_enter Tryz.func83, Tryz.ntmps83
  go_wp2
  go_loop [5] (fun i => ∃ k : Nat, k ≤ s.size ∧ i = .int .i64 k ∧ NoDot s k) (fun i => s.size - (intOf i).toNat)
  case atStart => exact ⟨0, by omega, rfl, NoDot.zero s⟩
  case round =>
    obtain ⟨k, hk, rfl, hno⟩ := hrel
    by_cases hlt : k < s.size
    · cases hm : ((s[k].toNat : Int) != 46)
      · have hcut := cut_dot hno hlt hm
        have hk1 : k + 1 ≤ s.size := hlt
        have z1 : (s.extract 0 k).size ≤ 1000000 := by simp; omega
        have z2 : (s.extract (k + 1) s.size).size ≤ 1000000 := by simp; omega
        have Z1 := Lib.hid z1
        have Z2 := Lib.hid z2
        clear z1 z2
        have HD : Hid (s.extract 0 k = ⟨(s.data.toList.take k).toArray⟩) := Lib.hid (extract_mk s k)
        have HE : Hid (s.extract (k + 1) s.size = ⟨(s.data.toList.drop (k + 1)).toArray⟩) := Lib.hid (extract_mk' s k)
        have HX := Lib.hid hcut
        clear hcut
        cases hj : (con (s.extract 0 k).data.toList && named (s.extract (k + 1) s.size).data.toList)
        · have H : Hid (spl s.data.toList = false) := Lib.hid (by rw [HS.out, HX.out]; rw [HD.out, HE.out] at hj; exact hj)
          have HJ := Lib.hid (joinB_none hj)
          clear hj
          go_wp2
          go_quiet ((go_at_call 138; exact Calls.quiet_of_same ((rJoin_v _ _ _ _ Z1.out Z2.out HJ.out).mono fun _ _ h => ⟨h.1, h.2.symm⟩)))
          go_wp2
          go_ret3
          exact ⟨by rw [HM.out, HN.out, H.out]; rfl, below_drewN (Below.refl _ _) _⟩
        · have H : Hid (spl s.data.toList = true) := Lib.hid (by rw [HS.out, HX.out]; rw [HD.out, HE.out] at hj; exact hj)
          have HJ := Lib.hid (joinB_some hj)
          clear hj
          have HQ : (s.extract 0 k ++ ⟨#[46]⟩ ++ s.extract (k + 1) s.size).toList.isEmpty = false := by
            rw [Lib.toList_data, app_data, app_data]; simp
          go_wp2
          go_quiet ((go_at_call 138; exact Calls.quiet_of_same ((rJoin_v _ _ _ _ Z1.out Z2.out HJ.out).mono fun _ _ h => ⟨h.1, h.2.symm⟩)))
          go_wp2
          go_quiet (fail)
          go_wp2
          go_ret3
          exact ⟨by rw [HM.out, HN.out, H.out, HX.out, HD.out, HE.out]; rfl, below_drewN (below_drewN (Below.refl _ _) _) _⟩
      · go_wp2
        exact ⟨⟨k + 1, by omega, by go_num, hno.next hlt hm⟩, by simp [intOf]; omega⟩
    · have H := Lib.hid (spl_nodot hno (show s.size ≤ k by omega))
      go_wp2
      go_ret3
      exact ⟨by rw [HM.out, HN.out, H.out]; rfl, Below.refl _ _⟩
end Go.Proofs.YtniejaachfhkdaaGreatDoor
