/-
  WALKS. Words, symbols, the reserved ones: the reference's and the program's.
-/
import Derived.Test.YtakojceggpljoaaGreatDoorChars
namespace Go.Proofs.YtakojceggpljoaaGreatDoor
open Go.RowKit
theorem take_one {s : ByteArray} (h : 0 < s.size) : s.data.toList.take 1 = [s[0]] := by
  have := take_snoc s 0 h
  simpa using this
theorem wordB_head {s : ByteArray} (h : 0 < s.size) (hh : sttB s[0] = false) : wordB s.data.toList = false := by
  simp [wordB, take_one h, hh]
theorem wordB_len {s : ByteArray} (h : s.size < 1 ∨ 64 < s.size) : wordB s.data.toList = false := by
  rw [Lib.size_eq] at h
  unfold wordB
  rcases h with h | h
  · rw [decide_eq_false (by omega)]; simp
  · rw [decide_eq_false (show ¬ s.data.toList.length ≤ 64 by omega)]; simp
theorem wordB_all {s : ByteArray} (h0 : 1 ≤ s.size) (h1 : s.size ≤ 64) (hh : sttB s[0] = true) : wordB s.data.toList = s.data.toList.all wdB := by
  rw [Lib.size_eq] at h0 h1
  unfold wordB
  rw [decide_eq_true h0, decide_eq_true h1, take_one (by rw [Lib.size_eq]; omega)]
  simp [hh]
set_option maxHeartbeats 1000000 in
theorem rword_any (s : ByteArray) (w : World) :
    Calls Tryz.prog 131 #[.string s] w fun e w' => e = .returned (.bool (wordB s.data.toList)) ∧ w = w' := by
  by_cases hl : 1 ≤ s.size ∧ s.size ≤ 64
  · obtain ⟨hl1, hl2⟩ := hl
    have h0 : 0 < s.size := hl1
    have e1 : decide ((s.size : Int) < 1) = false := by simp; omega
    have e2 : decide (64 < (s.size : Int)) = false := by simp; omega
    by_cases hst : sttB s[0] = true
    · have HW := Lib.hid (wordB_all hl1 hl2 hst)
      have hlu : lw (s[0].toNat : Int) = true ∨ (lw (s[0].toNat : Int) = false ∧ up (s[0].toNat : Int) = true) := by
        have : (lw (s[0].toNat : Int) || up (s[0].toNat : Int)) = true := hst
        cases h : lw (s[0].toNat : Int) <;> simp_all
      clear hst
      rcases hlu with hlw | ⟨hlw, hup⟩
      all_goals
        go_enter Tryz.func131, Tryz.ntmps131
        go_wp2_with (first | (go_at_call 133; refine (rupper_any _ _).mono ?_; rintro e w' ⟨rfl, rfl⟩) | (go_at_call 153; refine (rlower_any _ _).mono ?_; rintro e w' ⟨rfl, rfl⟩))
        go_loop [3] (fun i => ∃ k : Nat, k ≤ s.size ∧ i = .int .i64 k ∧ (s.data.toList.take k).all wdB = true) (fun i => s.size - (intOf i).toNat)
        case atStart => exact ⟨0, by omega, rfl, by simp⟩
        case round =>
          obtain ⟨k, hk, rfl, hno⟩ := hrel
          have HN := Lib.hid hno
          clear hno
          by_cases hlt : k < s.size
          · go_wp2_with (first | (go_at_call 133; refine (rupper_any _ _).mono ?_; rintro e w' ⟨rfl, rfl⟩) | (go_at_call 153; refine (rlower_any _ _).mono ?_; rintro e w' ⟨rfl, rfl⟩) | (go_at_call 154; refine (rdigit_any _ _).mono ?_; rintro e w' ⟨rfl, rfl⟩))
            all_goals first
              | (go_ret; exact ⟨ret_bool (by rw [HW.out]; exact (all_stop hlt (by simp_all [wdB, wd, stt])).symm), rfl⟩)
              | exact ⟨⟨k + 1, by omega, by go_num, all_step hlt (by simp_all [wdB, wd, stt]) HN.out⟩, by simp [intOf]; omega⟩
          · go_wp2
            go_ret
            exact ⟨ret_bool (by rw [HW.out, ← take_end (show s.size ≤ k by omega), HN.out]), rfl⟩
    · have hst' : sttB s[0] = false := by simpa using hst
      have HW := Lib.hid (wordB_head h0 hst')
      have hlw : lw (s[0].toNat : Int) = false := by unfold sttB stt at hst'; simp at hst'; exact hst'.1
      have hup : up (s[0].toNat : Int) = false := by unfold sttB stt at hst'; simp at hst'; exact hst'.2
      clear hst hst'
      go_enter Tryz.func131, Tryz.ntmps131
      go_wp2_with (first | (go_at_call 133; refine (rupper_any _ _).mono ?_; rintro e w' ⟨rfl, rfl⟩) | (go_at_call 153; refine (rlower_any _ _).mono ?_; rintro e w' ⟨rfl, rfl⟩))
      go_ret
      exact ⟨ret_bool HW.out.symm, rfl⟩
  · have HW := Lib.hid (wordB_len (s := s) (by omega))
    have e1 : decide ((s.size : Int) < 1) = true ∨ (decide ((s.size : Int) < 1) = false ∧ decide (64 < (s.size : Int)) = true) := by simp; omega
    clear hl
    rcases e1 with e1 | ⟨e1, e2⟩
    · have g1 : (s.size : Int) < 1 := by simpa using e1
      go_enter Tryz.func131, Tryz.ntmps131
      go_wp2
      go_ret
      exact ⟨ret_bool HW.out.symm, rfl⟩
    · have g1 : 1 ≤ (s.size : Int) := by simpa using e1
      have g2 : 64 < (s.size : Int) := by simpa using e2
      go_enter Tryz.func131, Tryz.ntmps131
      go_wp2
      go_ret
      exact ⟨ret_bool HW.out.symm, rfl⟩
theorem byte_eq (c : UInt8) (n : Nat) (hn : n < 256) : ((c.toNat : Int) == (n : Int)) = (c == UInt8.ofNat n) := by
  rw [Bool.eq_iff_iff]; simp only [beq_iff_eq]
  constructor
  · intro h; apply UInt8.toNat_inj.1; simp; omega
  · rintro rfl; simp; omega
theorem mn_eq (c : UInt8) : mn c = ((c.toNat : Int) == 45) := (byte_eq c 45 (by omega)).symm
theorem val_int {k : IntKind} {a b : Int} (h : b = a) : Value.int k a = Value.int k b := by rw [h]
theorem mns_yes {s : ByteArray} {k : Nat} (h : k < s.size) (hm : ((s[k].toNat : Int) == 45) = true) : ((mns (s.data.toList.take (k + 1)) : Nat) : Int) = (mns (s.data.toList.take k) : Int) + 1 := by
  rw [mns_snoc h, mn_eq, hm]; simp
theorem mns_no {s : ByteArray} {k : Nat} (h : k < s.size) (hm : ((s[k].toNat : Int) == 45) = false) : ((mns (s.data.toList.take (k + 1)) : Nat) : Int) = (mns (s.data.toList.take k) : Int) := by
  rw [mns_snoc h, mn_eq, hm]; simp
theorem symbolB_len {s : ByteArray} (h : s.size < 1 ∨ 64 < s.size) : symbolB s.data.toList = false := by
  rw [Lib.size_eq] at h
  unfold symbolB
  rcases h with h | h
  · rw [decide_eq_false (by omega)]; simp
  · rw [decide_eq_false (show ¬ s.data.toList.length ≤ 64 by omega)]; simp
theorem symbolB_stop {s : ByteArray} {k : Nat} (h : k < s.size) (hp : syB s[k] = false) : symbolB s.data.toList = false := by
  simp [symbolB, all_stop h hp]
theorem symbolB_end {s : ByteArray} (h0 : 1 ≤ s.size) (h1 : s.size ≤ 64) {k : Nat} (hk : s.size ≤ k) (ha : (s.data.toList.take k).all syB = true) :
    symbolB s.data.toList = (decide (mns (s.data.toList.take k) < s.size) || decide (s.size = 1)) := by
  rw [take_end hk] at ha ⊢
  have hm := mns_le s.data.toList
  rw [Lib.size_eq] at h0 h1 ⊢
  unfold symbolB
  rw [decide_eq_true h0, decide_eq_true h1, ha, mns_all]
  by_cases h : mns s.data.toList = s.data.toList.length
  · rw [decide_eq_true h, decide_eq_false (show ¬ mns s.data.toList < s.data.toList.length by omega)]; rfl
  · rw [decide_eq_false h, decide_eq_true (show mns s.data.toList < s.data.toList.length by omega)]; rfl
set_option maxHeartbeats 1000000 in
theorem rsymbol_any (s : ByteArray) (w : World) :
    Calls Tryz.prog 134 #[.string s] w fun e w' => e = .returned (.bool (symbolB s.data.toList)) ∧ w = w' := by
  by_cases hl : 1 ≤ s.size ∧ s.size ≤ 64
  · obtain ⟨hl1, hl2⟩ := hl
    have h0 : 0 < s.size := hl1
    have e1 : decide ((s.size : Int) < 1) = false := by simp; omega
    have e2 : decide (64 < (s.size : Int)) = false := by simp; omega
    go_enter Tryz.func134, Tryz.ntmps134
    go_wp2
    go_loop [3, 4] (fun m i => ∃ k : Nat, k ≤ s.size ∧ i = .int .i64 k ∧ m = .int .i64 (mns (s.data.toList.take k)) ∧ (s.data.toList.take k).all syB = true) (fun _ i => s.size - (intOf i).toNat)
    case atStart => exact ⟨0, by omega, rfl, by simp [mns], by simp⟩
    case round =>
      obtain ⟨k, hk, rfl, rfl, hno⟩ := hrel
      have HN := Lib.hid hno
      clear hno
      have hmk := mns_le (s.data.toList.take k)
      have hmk2 : mns (s.data.toList.take k) ≤ 64 := by rw [List.length_take] at hmk; omega
      clear hmk
      by_cases hlt : k < s.size
      · have hb0 : 0 ≤ (s[k].toNat : Int) := by omega
        have hb1 : (s[k].toNat : Int) ≤ 255 := by have := s[k].toNat_lt; omega
        go_wp2_with (first | (go_at_call 155; refine (rSymbolic_any _ _ (by omega) (by omega)).mono ?_; rintro e w' ⟨rfl, rfl⟩))
        all_goals first
          | (go_ret; exact ⟨ret_bool (symbolB_stop hlt (by simp_all [syB])).symm, rfl⟩)
          | exact ⟨⟨k + 1, by omega, by go_num, val_int (mns_yes hlt (by assumption)), all_step hlt (by simp_all [syB]) HN.out⟩, by simp [intOf]; omega⟩
          | exact ⟨⟨k + 1, by omega, by go_num, val_int (mns_no hlt (by assumption)), all_step hlt (by simp_all [syB]) HN.out⟩, by simp [intOf]; omega⟩
      · have HE := Lib.hid (symbolB_end hl1 hl2 (show s.size ≤ k by omega) HN.out)
        go_wp2
        all_goals (go_ret; exact ⟨ret_bool (by rw [HE.out, Bool.eq_iff_iff]; simp; omega), rfl⟩)
  · have HW := Lib.hid (symbolB_len (s := s) (by omega))
    have e1 : decide ((s.size : Int) < 1) = true ∨ (decide ((s.size : Int) < 1) = false ∧ decide (64 < (s.size : Int)) = true) := by simp; omega
    clear hl
    rcases e1 with e1 | ⟨e1, e2⟩
    · have g1 : (s.size : Int) < 1 := by simpa using e1
      go_enter Tryz.func134, Tryz.ntmps134
      go_wp2
      go_ret
      exact ⟨ret_bool HW.out.symm, rfl⟩
    · have g1 : 1 ≤ (s.size : Int) := by simpa using e1
      have g2 : 64 < (s.size : Int) := by simpa using e2
      go_enter Tryz.func134, Tryz.ntmps134
      go_wp2
      go_ret
      exact ⟨ret_bool HW.out.symm, rfl⟩
end Go.Proofs.YtakojceggpljoaaGreatDoor
