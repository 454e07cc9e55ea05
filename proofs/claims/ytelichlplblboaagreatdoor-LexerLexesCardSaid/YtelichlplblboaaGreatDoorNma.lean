/-
  WALKS. The byte predicates of package chars and of the reference.
  WALKS. Words, symbols, the reserved ones: the reference's and the program's.
  WALKS. OnlyMinus; the shape of a string.
  WALKS. The reserved words and symbols: the program's and the reference's.
  The world in which the library's variables lie as their text lays them, kept by every call; the library's calls in that word.
  WALKS. Package names without the supply: classes, qualified names, generated names.
-/
import Derived.Test.YtelichlplblboaaGreatDoorProg
import Derived.Test.YtelichlplblboaaGreatDoorNumsP
import Derived.Test.YtelichlplblboaaGreatDoorShelf
import Derived.WalkKit
import Derived.LoopN
import Derived.Lib.Hide
import Derived.WalkSpells
import Derived.WalkLawsBesides
import Derived.Lib.AtoiErrMem
namespace Go.Proofs.YtelichlplblboaaGreatDoor
open Go.RowKit
set_option maxHeartbeats 400000 in
theorem isUpper_any (n : Int) (w : World) :
    Calls Tryz.prog 86 #[.int .u8 n] w fun e w' => e = .returned (.bool (up n)) ∧ w = w' := by
  go_enter Tryz.func86, Tryz.ntmps86
  go_wp2
  all_goals (go_ret; exact ⟨ret_bool (by rw [Bool.eq_iff_iff]; simp [up]; try omega), rfl⟩)
set_option maxHeartbeats 400000 in
theorem isLower_any (n : Int) (w : World) :
    Calls Tryz.prog 85 #[.int .u8 n] w fun e w' => e = .returned (.bool (lw n)) ∧ w = w' := by
  go_enter Tryz.func85, Tryz.ntmps85
  go_wp2
  all_goals (go_ret; exact ⟨ret_bool (by rw [Bool.eq_iff_iff]; simp [lw]; try omega), rfl⟩)
set_option maxHeartbeats 400000 in
theorem isDigit_any (n : Int) (w : World) :
    Calls Tryz.prog 44 #[.int .u8 n] w fun e w' => e = .returned (.bool (dg n)) ∧ w = w' := by
  go_enter Tryz.func44, Tryz.ntmps44
  go_wp2
  all_goals (go_ret; exact ⟨ret_bool (by rw [Bool.eq_iff_iff]; simp [dg]; try omega), rfl⟩)
set_option maxHeartbeats 400000 in
theorem isStart_any (n : Int) (w : World) :
    Calls Tryz.prog 43 #[.int .u8 n] w fun e w' => e = .returned (.bool (stt n)) ∧ w = w' := by
  go_enter Tryz.func43, Tryz.ntmps43
  go_wp2_with (first | (go_at_call 86; refine (isUpper_any _ _).mono ?_; rintro e w' ⟨rfl, rfl⟩) | (go_at_call 85; refine (isLower_any _ _).mono ?_; rintro e w' ⟨rfl, rfl⟩))
  all_goals (go_ret; exact ⟨ret_bool (by simp [stt, *]), rfl⟩)
set_option maxHeartbeats 400000 in
theorem isWord_any (n : Int) (w : World) :
    Calls Tryz.prog 90 #[.int .u8 n] w fun e w' => e = .returned (.bool (wd n)) ∧ w = w' := by
  go_enter Tryz.func90, Tryz.ntmps90
  go_wp2_with (first | (go_at_call 43; refine (isStart_any _ _).mono ?_; rintro e w' ⟨rfl, rfl⟩) | (go_at_call 44; refine (isDigit_any _ _).mono ?_; rintro e w' ⟨rfl, rfl⟩))
  all_goals (go_ret; exact ⟨ret_bool (by rw [Bool.eq_iff_iff]; simp [wd, *]), rfl⟩)
set_option maxHeartbeats 400000 in
theorem isSymbol_any (n : Int) (w : World) :
    Calls Tryz.prog 42 #[.int .u8 n] w fun e w' => e = .returned (.bool (sy n)) ∧ w = w' := by
  go_enter Tryz.func42, Tryz.ntmps42
  go_wp2_with (first | (go_at_call 45; refine (Tryz.strings_IndexByte _ _ _).mono ?_; rintro e w' ⟨rfl, rfl⟩))
  all_goals (go_ret; exact ⟨ret_bool (by rfl), rfl⟩)
set_option maxHeartbeats 400000 in
theorem rupper_any (n : Int) (w : World) :
    Calls Tryz.prog 133 #[.int .u8 n] w fun e w' => e = .returned (.bool (up n)) ∧ w = w' := by
  go_enter Tryz.func133, Tryz.ntmps133
  go_wp2
  all_goals (go_ret; exact ⟨ret_bool (by rw [Bool.eq_iff_iff]; simp [up]; try omega), rfl⟩)
set_option maxHeartbeats 400000 in
theorem rlower_any (n : Int) (w : World) :
    Calls Tryz.prog 153 #[.int .u8 n] w fun e w' => e = .returned (.bool (lw n)) ∧ w = w' := by
  go_enter Tryz.func153, Tryz.ntmps153
  go_wp2
  all_goals (go_ret; exact ⟨ret_bool (by rw [Bool.eq_iff_iff]; simp [lw]; try omega), rfl⟩)
set_option maxHeartbeats 400000 in
theorem rdigit_any (n : Int) (w : World) :
    Calls Tryz.prog 154 #[.int .u8 n] w fun e w' => e = .returned (.bool (dg n)) ∧ w = w' := by
  go_enter Tryz.func154, Tryz.ntmps154
  go_wp2
  all_goals (go_ret; exact ⟨ret_bool (by rw [Bool.eq_iff_iff]; simp [dg]; try omega), rfl⟩)
set_option maxHeartbeats 400000 in
theorem rSymbolic_any (n : Int) (w : World) (h0 : 0 ≤ n) (h1 : n ≤ 255) :
    Calls Tryz.prog 155 #[.int .u8 n] w fun e w' => e = .returned (.bool (sy n)) ∧ w = w' := by
  go_enter Tryz.func155, Tryz.ntmps155
  go_wp2
  go_loop [4] (fun i => ∃ k : Nat, k ≤ 20 ∧ i = .int .i64 k ∧ NoSy n k) (fun i => 20 - (intOf i).toNat)
  case atStart => exact ⟨0, by omega, rfl, NoSy.zero n⟩
  case round =>
    obtain ⟨k, hk, rfl, hno⟩ := hrel
    by_cases hlt : k < 20
    · have hlt' : k < symsBA.size := hlt
      by_cases hm : ((symsBA[k].toNat : Int) == n) = true
      · go_wp2
        go_ret
        exact ⟨ret_bool (sy_hit h0 h1 hlt' hm).symm, rfl⟩
      · have hm' : ((symsBA[k].toNat : Int) == n) = false := by simpa using hm
        clear hm
        go_wp2
        go_round
        case rel => exact ⟨k + 1, by omega, by go_num, hno.next hlt' hm'⟩
        case measure => simp [intOf]; omega
    · go_wp2
      go_ret
      exact ⟨ret_bool (hno.done h0 h1 (by omega)).symm, rfl⟩
end Go.Proofs.YtelichlplblboaaGreatDoor
namespace Go.Proofs.YtelichlplblboaaGreatDoor
open Go.RowKit
theorem take_one {s : ByteArray} (h : 0 < s.size) : s.data.toList.take 1 = [s[0]] := by
  have := take_snoc s 0 h
  simpa using this
theorem wordB_head {s : ByteArray} (h : 0 < s.size) (hh : sttB s[0] = false) : wordB s.data.toList = false := by
  simp [wordB, take_one h, hh]
theorem wordB_len {s : ByteArray} (h : s.size < 1 ∨ 64 < s.size) : wordB s.data.toList = false := by
  rw [Lib.size_eq] at h
  unfold wordB
  rcases h with h | h
  · rw [decide_eq_false (by omega)]; simp
  · rw [decide_eq_false (show ¬ s.data.toList.length ≤ 64 by omega)]; simp
theorem wordB_all {s : ByteArray} (h0 : 1 ≤ s.size) (h1 : s.size ≤ 64) (hh : sttB s[0] = true) : wordB s.data.toList = s.data.toList.all wdB := by
  rw [Lib.size_eq] at h0 h1
  unfold wordB
  rw [decide_eq_true h0, decide_eq_true h1, take_one (by rw [Lib.size_eq]; omega)]
  simp [hh]
set_option maxHeartbeats 1000000 in
theorem rword_any (s : ByteArray) (w : World) :
    Calls Tryz.prog 131 #[.string s] w fun e w' => e = .returned (.bool (wordB s.data.toList)) ∧ w = w' := by
  by_cases hl : 1 ≤ s.size ∧ s.size ≤ 64
  · obtain ⟨hl1, hl2⟩ := hl
    have h0 : 0 < s.size := hl1
    have e1 : decide ((s.size : Int) < 1) = false := by simp; omega
    have e2 : decide (64 < (s.size : Int)) = false := by simp; omega
    by_cases hst : sttB s[0] = true
    · have HW := Lib.hid (wordB_all hl1 hl2 hst)
      have hlu : lw (s[0].toNat : Int) = true ∨ (lw (s[0].toNat : Int) = false ∧ up (s[0].toNat : Int) = true) := by
        have : (lw (s[0].toNat : Int) || up (s[0].toNat : Int)) = true := hst
        cases h : lw (s[0].toNat : Int) <;> simp_all
      clear hst
      rcases hlu with hlw | ⟨hlw, hup⟩
      all_goals
        go_enter Tryz.func131, Tryz.ntmps131
        go_wp2_with (first | (go_at_call 133; refine (rupper_any _ _).mono ?_; rintro e w' ⟨rfl, rfl⟩) | (go_at_call 153; refine (rlower_any _ _).mono ?_; rintro e w' ⟨rfl, rfl⟩))
        go_loop [3] (fun i => ∃ k : Nat, k ≤ s.size ∧ i = .int .i64 k ∧ (s.data.toList.take k).all wdB = true) (fun i => s.size - (intOf i).toNat)
        case atStart => exact ⟨0, by omega, rfl, by simp⟩
        case round =>
          obtain ⟨k, hk, rfl, hno⟩ := hrel
          have HN := Lib.hid hno
          clear hno
          by_cases hlt : k < s.size
          · go_wp2_with (first | (go_at_call 133; refine (rupper_any _ _).mono ?_; rintro e w' ⟨rfl, rfl⟩) | (go_at_call 153; refine (rlower_any _ _).mono ?_; rintro e w' ⟨rfl, rfl⟩) | (go_at_call 154; refine (rdigit_any _ _).mono ?_; rintro e w' ⟨rfl, rfl⟩))
            all_goals first
              | (go_ret; exact ⟨ret_bool (by rw [HW.out]; exact (all_stop hlt (by simp_all [wdB, wd, stt])).symm), rfl⟩)
              | exact ⟨⟨k + 1, by omega, by go_num, all_step hlt (by simp_all [wdB, wd, stt]) HN.out⟩, by simp [intOf]; omega⟩
          · go_wp2
            go_ret
            exact ⟨ret_bool (by rw [HW.out, ← take_end (show s.size ≤ k by omega), HN.out]), rfl⟩
    · have hst' : sttB s[0] = false := by simpa using hst
      have HW := Lib.hid (wordB_head h0 hst')
      have hlw : lw (s[0].toNat : Int) = false := by unfold sttB stt at hst'; simp at hst'; exact hst'.1
      have hup : up (s[0].toNat : Int) = false := by unfold sttB stt at hst'; simp at hst'; exact hst'.2
      clear hst hst'
      go_enter Tryz.func131, Tryz.ntmps131
      go_wp2_with (first | (go_at_call 133; refine (rupper_any _ _).mono ?_; rintro e w' ⟨rfl, rfl⟩) | (go_at_call 153; refine (rlower_any _ _).mono ?_; rintro e w' ⟨rfl, rfl⟩))
      go_ret
      exact ⟨ret_bool HW.out.symm, rfl⟩
  · have HW := Lib.hid (wordB_len (s := s) (by omega))
    have e1 : decide ((s.size : Int) < 1) = true ∨ (decide ((s.size : Int) < 1) = false ∧ decide (64 < (s.size : Int)) = true) := by simp; omega
    clear hl
    rcases e1 with e1 | ⟨e1, e2⟩
    · have g1 : (s.size : Int) < 1 := by simpa using e1
      go_enter Tryz.func131, Tryz.ntmps131
      go_wp2
      go_ret
      exact ⟨ret_bool HW.out.symm, rfl⟩
    · have g1 : 1 ≤ (s.size : Int) := by simpa using e1
      have g2 : 64 < (s.size : Int) := by simpa using e2
      go_enter Tryz.func131, Tryz.ntmps131
      go_wp2
      go_ret
      exact ⟨ret_bool HW.out.symm, rfl⟩
theorem byte_eq (c : UInt8) (n : Nat) (hn : n < 256) : ((c.toNat : Int) == (n : Int)) = (c == UInt8.ofNat n) := by
  rw [Bool.eq_iff_iff]; simp only [beq_iff_eq]
  constructor
  · intro h; apply UInt8.toNat_inj.1; simp; omega
  · rintro rfl; simp; omega
theorem mn_eq (c : UInt8) : mn c = ((c.toNat : Int) == 45) := (byte_eq c 45 (by omega)).symm
theorem val_int {k : IntKind} {a b : Int} (h : b = a) : Value.int k a = Value.int k b := by rw [h]
theorem mns_yes {s : ByteArray} {k : Nat} (h : k < s.size) (hm : ((s[k].toNat : Int) == 45) = true) : ((mns (s.data.toList.take (k + 1)) : Nat) : Int) = (mns (s.data.toList.take k) : Int) + 1 := by
  rw [mns_snoc h, mn_eq, hm]; simp
theorem mns_no {s : ByteArray} {k : Nat} (h : k < s.size) (hm : ((s[k].toNat : Int) == 45) = false) : ((mns (s.data.toList.take (k + 1)) : Nat) : Int) = (mns (s.data.toList.take k) : Int) := by
  rw [mns_snoc h, mn_eq, hm]; simp
theorem symbolB_len {s : ByteArray} (h : s.size < 1 ∨ 64 < s.size) : symbolB s.data.toList = false := by
  rw [Lib.size_eq] at h
  unfold symbolB
  rcases h with h | h
  · rw [decide_eq_false (by omega)]; simp
  · rw [decide_eq_false (show ¬ s.data.toList.length ≤ 64 by omega)]; simp
theorem symbolB_stop {s : ByteArray} {k : Nat} (h : k < s.size) (hp : syB s[k] = false) : symbolB s.data.toList = false := by
  simp [symbolB, all_stop h hp]
theorem symbolB_end {s : ByteArray} (h0 : 1 ≤ s.size) (h1 : s.size ≤ 64) {k : Nat} (hk : s.size ≤ k) (ha : (s.data.toList.take k).all syB = true) :
    symbolB s.data.toList = (decide (mns (s.data.toList.take k) < s.size) || decide (s.size = 1)) := by
  rw [take_end hk] at ha ⊢
  have hm := mns_le s.data.toList
  rw [Lib.size_eq] at h0 h1 ⊢
  unfold symbolB
  rw [decide_eq_true h0, decide_eq_true h1, ha, mns_all]
  by_cases h : mns s.data.toList = s.data.toList.length
  · rw [decide_eq_true h, decide_eq_false (show ¬ mns s.data.toList < s.data.toList.length by omega)]; rfl
  · rw [decide_eq_false h, decide_eq_true (show mns s.data.toList < s.data.toList.length by omega)]; rfl
set_option maxHeartbeats 1000000 in
theorem rsymbol_any (s : ByteArray) (w : World) :
    Calls Tryz.prog 134 #[.string s] w fun e w' => e = .returned (.bool (symbolB s.data.toList)) ∧ w = w' := by
  by_cases hl : 1 ≤ s.size ∧ s.size ≤ 64
  · obtain ⟨hl1, hl2⟩ := hl
    have h0 : 0 < s.size := hl1
    have e1 : decide ((s.size : Int) < 1) = false := by simp; omega
    have e2 : decide (64 < (s.size : Int)) = false := by simp; omega
    go_enter Tryz.func134, Tryz.ntmps134
    go_wp2
    go_loop [3, 4] (fun m i => ∃ k : Nat, k ≤ s.size ∧ i = .int .i64 k ∧ m = .int .i64 (mns (s.data.toList.take k)) ∧ (s.data.toList.take k).all syB = true) (fun _ i => s.size - (intOf i).toNat)
    case atStart => exact ⟨0, by omega, rfl, by simp [mns], by simp⟩
    case round =>
      obtain ⟨k, hk, rfl, rfl, hno⟩ := hrel
      have HN := Lib.hid hno
      clear hno
      have hmk := mns_le (s.data.toList.take k)
      have hmk2 : mns (s.data.toList.take k) ≤ 64 := by rw [List.length_take] at hmk; omega
      clear hmk
      by_cases hlt : k < s.size
      · have hb0 : 0 ≤ (s[k].toNat : Int) := by omega
        have hb1 : (s[k].toNat : Int) ≤ 255 := by have := s[k].toNat_lt; omega
        go_wp2_with (first | (go_at_call 155; refine (rSymbolic_any _ _ (by omega) (by omega)).mono ?_; rintro e w' ⟨rfl, rfl⟩))
        all_goals first
          | (go_ret; exact ⟨ret_bool (symbolB_stop hlt (by simp_all [syB])).symm, rfl⟩)
          | exact ⟨⟨k + 1, by omega, by go_num, val_int (mns_yes hlt (by assumption)), all_step hlt (by simp_all [syB]) HN.out⟩, by simp [intOf]; omega⟩
          | exact ⟨⟨k + 1, by omega, by go_num, val_int (mns_no hlt (by assumption)), all_step hlt (by simp_all [syB]) HN.out⟩, by simp [intOf]; omega⟩
      · have HE := Lib.hid (symbolB_end hl1 hl2 (show s.size ≤ k by omega) HN.out)
        go_wp2
        all_goals (go_ret; exact ⟨ret_bool (by rw [HE.out, Bool.eq_iff_iff]; simp; omega), rfl⟩)
  · have HW := Lib.hid (symbolB_len (s := s) (by omega))
    have e1 : decide ((s.size : Int) < 1) = true ∨ (decide ((s.size : Int) < 1) = false ∧ decide (64 < (s.size : Int)) = true) := by simp; omega
    clear hl
    rcases e1 with e1 | ⟨e1, e2⟩
    · have g1 : (s.size : Int) < 1 := by simpa using e1
      go_enter Tryz.func134, Tryz.ntmps134
      go_wp2
      go_ret
      exact ⟨ret_bool HW.out.symm, rfl⟩
    · have g1 : 1 ≤ (s.size : Int) := by simpa using e1
      have g2 : 64 < (s.size : Int) := by simpa using e2
      go_enter Tryz.func134, Tryz.ntmps134
      go_wp2
      go_ret
      exact ⟨ret_bool HW.out.symm, rfl⟩
end Go.Proofs.YtelichlplblboaaGreatDoor
namespace Go.Proofs.YtelichlplblboaaGreatDoor
open Go.RowKit
def om (l : List UInt8) : Bool := decide (2 ≤ l.length) && l.all mn
theorem trimB_nil (l : List UInt8) : (Lib.trimB l 45).isEmpty = l.all mn := by
  have h1 : ∀ r : List UInt8, (r.dropWhile (· == (45 : UInt8))).isEmpty = r.all mn := by
    intro r
    induction r with
    | nil => rfl
    | cons c r ih =>
      by_cases h : c = 45
      · subst h; simpa [List.dropWhile, mn] using ih
      · have h' : (c == (45 : UInt8)) = false := by simp [h]
        simp [List.dropWhile, mn, h']
  have h2 : ∀ r : List UInt8, r.all mn = true → (r.dropWhile (· == (45 : UInt8))) = [] := by
    intro r h
    have := h1 r
    rw [h] at this
    exact List.isEmpty_iff.1 this
  have h3 : ∀ r : List UInt8, r.reverse.all mn = r.all mn := fun r => by simp
  unfold Lib.trimB Lib.trimLeftB Lib.trimRightB
  rw [h1, h3]
  cases h : l.all mn
  · rw [← h3] at h
    rw [Bool.eq_false_iff]
    intro hc
    have hd : (l.reverse.dropWhile (· == (45 : UInt8))).isEmpty = false := by rw [h1, h]
    cases hr : l.reverse.dropWhile (· == (45 : UInt8)) with
    | nil => rw [hr] at hd; simp at hd
    | cons c r =>
      rw [hr] at hc
      have hc0 : mn c = true := by simp at hc; exact hc.1
      have := List.head?_dropWhile_not (fun x => x == (45 : UInt8)) l.reverse
      rw [hr] at this
      simp at this
      simp [mn] at hc0
      exact this hc0
  · rw [h2 _ (by rw [h3]; exact h)]; rfl
set_option maxHeartbeats 1000000 in
theorem onlyMinus_any (s : ByteArray) (w : World) (hs : s.size ≤ 9223372036854775807) :
    Calls Tryz.prog 40 #[.string s] w fun e w' => e = .returned (.bool (om s.data.toList)) ∧ Below w.heap.size w w' := by
  have H := Lib.hid (trimB_nil s.data.toList)
  by_cases hl : 2 ≤ s.size
  · have e1 : decide (2 ≤ (s.size : Int)) = true := by simp; omega
    have HO : Hid (om s.data.toList = s.data.toList.all mn) := by
      show om s.data.toList = _
      unfold om
      rw [decide_eq_true (by rw [← Lib.size_eq]; exact hl)]; rfl
    go_enter Tryz.func40, Tryz.ntmps40
    go_wp2_with (first | (go_at_call 83; refine (Tryz.strings_Trim_one _ _ (by decide) _ hs).mono ?_; rintro e w1 ⟨rfl, hw⟩; have hb : Below w.heap.size w w1 := by (rcases hw with rfl | rfl; exact Below.refl _ _; exact (Below.refl _ _).drew)); clear hw)
    go_ret
    exact ⟨ret_bool (by rw [HO.out, H.out]), hb⟩
  · have e1 : decide (2 ≤ (s.size : Int)) = false := by simp; omega
    have HO : Hid (om s.data.toList = false) := by
      show om s.data.toList = _
      unfold om
      rw [decide_eq_false (by rw [← Lib.size_eq]; exact hl)]; rfl
    go_enter Tryz.func40, Tryz.ntmps40
    go_wp2
    go_ret
    exact ⟨ret_bool HO.out.symm, Below.refl _ _⟩
/-- 1: a word; 2: an operator; 0: neither. -/
def shp (l : List UInt8) : Int := if wordB l then 1 else if symbolB l then 2 else 0
theorem sy_not_stt (c : UInt8) (h : syB c = true) : sttB c = false := by
  have H : ∀ m : Fin 256, syB (UInt8.ofNat m.val) = true → sttB (UInt8.ofNat m.val) = false := by decide +kernel
  have e : UInt8.ofNat (⟨c.toNat, c.toNat_lt⟩ : Fin 256).val = c := by simp
  have := H ⟨c.toNat, c.toNat_lt⟩
  rw [e] at this
  exact this h
theorem shp_len {s : ByteArray} (h : s.size < 1 ∨ 64 < s.size) : shp s.data.toList = 0 := by
  simp [shp, wordB_len h, symbolB_len h]
theorem shp_none {s : ByteArray} (h : 0 < s.size) (h1 : syB s[0] = false) (h2 : sttB s[0] = false) : shp s.data.toList = 0 := by
  simp [shp, wordB_head h h2, symbolB_stop h h1]
theorem shp_word_end {s : ByteArray} (h0 : 1 ≤ s.size) (h1 : s.size ≤ 64) (h2 : sttB s[0] = true) {k : Nat} (hk : s.size ≤ k) (ha : (s.data.toList.take k).all wdB = true) : shp s.data.toList = 1 := by
  rw [take_end hk] at ha
  simp [shp, wordB_all h0 h1 h2, ha]
theorem shp_word_stop {s : ByteArray} (h0 : 1 ≤ s.size) (h1 : s.size ≤ 64) (h2 : sttB s[0] = true) (h3 : syB s[0] = false) {k : Nat} (hk : k < s.size) (hp : wdB s[k] = false) : shp s.data.toList = 0 := by
  have := symbolB_stop (show 0 < s.size from h0) h3
  simp only [shp, wordB_all h0 h1 h2, all_stop hk hp, this]; rfl
theorem shp_sym_stop {s : ByteArray} (h0 : 1 ≤ s.size) (h3 : syB s[0] = true) {k : Nat} (hk : k < s.size) (hp : syB s[k] = false) : shp s.data.toList = 0 := by
  have := wordB_head (show 0 < s.size from h0) (sy_not_stt _ h3)
  simp only [shp, this, symbolB_stop hk hp]; rfl
theorem shp_sym_end {s : ByteArray} (h0 : 1 ≤ s.size) (h1 : s.size ≤ 64) (h3 : syB s[0] = true) {k : Nat} (hk : s.size ≤ k) (ha : (s.data.toList.take k).all syB = true) : shp s.data.toList = if om s.data.toList then 0 else 2 := by
  have h4 := wordB_head (show 0 < s.size from h0) (sy_not_stt _ h3)
  rw [take_end hk] at ha
  rw [Lib.size_eq] at h0 h1
  have : symbolB s.data.toList = !om s.data.toList := by
    unfold symbolB om
    rw [decide_eq_true h0, decide_eq_true h1, ha]
    by_cases h : s.data.toList.length = 1
    · rw [decide_eq_true h, decide_eq_false (show ¬ 2 ≤ s.data.toList.length by omega)]; simp
    · rw [decide_eq_false h, decide_eq_true (show 2 ≤ s.data.toList.length by omega)]; simp
  simp only [shp, h4, this]
  cases om s.data.toList <;> rfl
set_option maxHeartbeats 1000000 in
theorem shapeOf_any (s : ByteArray) (w : World) (hs : s.size ≤ 9223372036854775807) :
    Calls Tryz.prog 121 #[.string s] w fun e w' => e = .returned (.int .i64 (shp s.data.toList)) ∧ Below w.heap.size w w' := by
  have HT := Lib.hid (Lib.toList_data s)
  by_cases hl : 1 ≤ s.size ∧ s.size ≤ 64
  · obtain ⟨hl1, hl2⟩ := hl
    have h0 : 0 < s.size := hl1
    have e1 : s.toList.isEmpty = false := by
      rw [HT.out, List.isEmpty_eq_false_iff, ← List.length_pos_iff, ← Lib.size_eq]; exact h0
    have e2 : decide (64 < (s.size : Int)) = false := by simp; omega
    cases h3 : syB s[0]
    · cases h4 : sttB s[0]
      · have HS := Lib.hid (shp_none h0 h3 h4)
        have h3' : sy (s[0].toNat : Int) = false := h3
        have h4' : stt (s[0].toNat : Int) = false := h4
        clear h3 h4
        go_enter Tryz.func121, Tryz.ntmps121
        go_wp2_with (first | (go_at_call 42; refine (isSymbol_any _ _).mono ?_; rintro e w' ⟨rfl, rfl⟩) | (go_at_call 43; refine (isStart_any _ _).mono ?_; rintro e w' ⟨rfl, rfl⟩))
        go_step3
        go_wp2_with (first | (go_at_call 42; refine (isSymbol_any _ _).mono ?_; rintro e w' ⟨rfl, rfl⟩) | (go_at_call 43; refine (isStart_any _ _).mono ?_; rintro e w' ⟨rfl, rfl⟩))
        try rw [Exit.noGoto_ret]
        go_ret
        exact ⟨ret_int HS.out.symm, Below.refl _ _⟩
      · have H3 := Lib.hid h3
        have H4 := Lib.hid h4
        have h3' : sy (s[0].toNat : Int) = false := h3
        have h4' : stt (s[0].toNat : Int) = true := h4
        have H0 := Lib.hid (show wdB s[0] = true by have : stt (s[0].toNat : Int) = true := h4; simp [wdB, wd, this])
        clear h3 h4
        go_enter Tryz.func121, Tryz.ntmps121
        go_wp2_with (first | (go_at_call 42; refine (isSymbol_any _ _).mono ?_; rintro e w' ⟨rfl, rfl⟩) | (go_at_call 43; refine (isStart_any _ _).mono ?_; rintro e w' ⟨rfl, rfl⟩))
        go_step3
        go_wp2_with (first | (go_at_call 42; refine (isSymbol_any _ _).mono ?_; rintro e w' ⟨rfl, rfl⟩) | (go_at_call 43; refine (isStart_any _ _).mono ?_; rintro e w' ⟨rfl, rfl⟩))
        go_step3
        go_wp2
        go_loop [3, 4] (fun m i => ∃ k : Nat, 1 ≤ k ∧ k ≤ s.size ∧ i = .int .i64 k ∧ m = .int .i64 1 ∧ (s.data.toList.take k).all wdB = true) (fun _ i => s.size - (intOf i).toNat)
        case atStart => exact ⟨1, by omega, by omega, rfl, rfl, by rw [take_one h0]; simp [H0.out]⟩
        case round =>
          obtain ⟨k, hk1, hk, rfl, rfl, hno⟩ := hrel
          have HN := Lib.hid hno
          clear hno
          by_cases hlt : k < s.size
          · cases hp : wdB s[k]
            · have hp' : wd (s[k].toNat : Int) = false := hp
              have HS := Lib.hid (shp_word_stop hl1 hl2 H4.out H3.out hlt hp)
              clear hp
              go_wp2_with (first | (go_at_call 42; refine (isSymbol_any _ _).mono ?_; rintro e w' ⟨rfl, rfl⟩) | (go_at_call 90; refine (isWord_any _ _).mono ?_; rintro e w' ⟨rfl, rfl⟩))
              rw [Exit.noGoto_ret]
              go_ret
              exact ⟨ret_int HS.out.symm, Below.refl _ _⟩
            · have hp' : wd (s[k].toNat : Int) = true := hp
              have HP := Lib.hid hp
              clear hp
              go_wp2_with (first | (go_at_call 42; refine (isSymbol_any _ _).mono ?_; rintro e w' ⟨rfl, rfl⟩) | (go_at_call 90; refine (isWord_any _ _).mono ?_; rintro e w' ⟨rfl, rfl⟩))
              exact ⟨⟨k + 1, by omega, by omega, by go_num, rfl, all_step hlt HP.out HN.out⟩, by simp [intOf]; omega⟩
          · have HS := Lib.hid (shp_word_end hl1 hl2 H4.out (show s.size ≤ k by omega) HN.out)
            go_wp2
            go_ret
            exact ⟨ret_int HS.out.symm, Below.refl _ _⟩
    · have H3 := Lib.hid h3
      have h3' : sy (s[0].toNat : Int) = true := h3
      clear h3
      go_enter Tryz.func121, Tryz.ntmps121
      go_wp2_with (first | (go_at_call 42; refine (isSymbol_any _ _).mono ?_; rintro e w' ⟨rfl, rfl⟩) | (go_at_call 43; refine (isStart_any _ _).mono ?_; rintro e w' ⟨rfl, rfl⟩))
      go_step3
      go_wp2_with (first | (go_at_call 42; refine (isSymbol_any _ _).mono ?_; rintro e w' ⟨rfl, rfl⟩) | (go_at_call 43; refine (isStart_any _ _).mono ?_; rintro e w' ⟨rfl, rfl⟩))
      go_step3
      go_wp2
      go_loop [3, 4] (fun m i => ∃ k : Nat, 1 ≤ k ∧ k ≤ s.size ∧ i = .int .i64 k ∧ m = .int .i64 2 ∧ (s.data.toList.take k).all syB = true) (fun _ i => s.size - (intOf i).toNat)
      case atStart => exact ⟨1, by omega, by omega, rfl, rfl, by rw [take_one h0]; simp [H3.out]⟩
      case round =>
        obtain ⟨k, hk1, hk, rfl, rfl, hno⟩ := hrel
        have HN := Lib.hid hno
        clear hno
        by_cases hlt : k < s.size
        · cases hp : syB s[k]
          · have hp' : sy (s[k].toNat : Int) = false := hp
            have HS := Lib.hid (shp_sym_stop hl1 H3.out hlt hp)
            clear hp
            go_wp2_with (first | (go_at_call 42; refine (isSymbol_any _ _).mono ?_; rintro e w' ⟨rfl, rfl⟩) | (go_at_call 90; refine (isWord_any _ _).mono ?_; rintro e w' ⟨rfl, rfl⟩))
            rw [Exit.noGoto_ret]
            go_ret
            exact ⟨ret_int HS.out.symm, Below.refl _ _⟩
          · have hp' : sy (s[k].toNat : Int) = true := hp
            have HP := Lib.hid hp
            clear hp
            go_wp2_with (first | (go_at_call 42; refine (isSymbol_any _ _).mono ?_; rintro e w' ⟨rfl, rfl⟩) | (go_at_call 90; refine (isWord_any _ _).mono ?_; rintro e w' ⟨rfl, rfl⟩))
            exact ⟨⟨k + 1, by omega, by omega, by go_num, rfl, all_step hlt HP.out HN.out⟩, by simp [intOf]; omega⟩
        · have HS := Lib.hid (shp_sym_end hl1 hl2 H3.out (show s.size ≤ k by omega) HN.out)
          cases hom : om s.data.toList
          all_goals
            have HO := Lib.hid hom
            go_wp2_with (first | (go_at_call 40; refine (onlyMinus_any _ _ hs).mono ?_; rintro e w1 ⟨rfl, hb⟩))
            first
              | (go_ret; exact ⟨ret_int (by rw [HS.out, HO.out]; rfl), hb⟩)
              | (rw [Exit.noGoto_ret]; go_ret; exact ⟨ret_int (by rw [HS.out, HO.out]; rfl), hb⟩)
  · have HS := Lib.hid (shp_len (s := s) (by omega))
    by_cases hz : s.size < 1
    · have e1 : s.toList.isEmpty = true := by
        rw [HT.out, List.isEmpty_iff, ← List.length_eq_zero_iff, ← Lib.size_eq]; omega
      clear hl
      go_enter Tryz.func121, Tryz.ntmps121
      go_wp2
      go_step3
      go_wp2
      rw [Exit.noGoto_ret]
      go_ret
      exact ⟨ret_int HS.out.symm, Below.refl _ _⟩
    · have e1 : s.toList.isEmpty = false := by
        rw [HT.out, List.isEmpty_eq_false_iff, ← List.length_pos_iff, ← Lib.size_eq]; omega
      have e2 : decide (64 < (s.size : Int)) = true := by simp; omega
      have e3 : 64 < (s.size : Int) := by omega
      clear hl
      go_enter Tryz.func121, Tryz.ntmps121
      go_wp2
      go_step3
      go_wp2
      rw [Exit.noGoto_ret]
      go_ret
      exact ⟨ret_int HS.out.symm, Below.refl _ _⟩
end Go.Proofs.YtelichlplblboaaGreatDoor
namespace Go.Proofs.YtelichlplblboaaGreatDoor
open Go.RowKit
set_option maxHeartbeats 1000000 in
theorem resW_any (s : ByteArray) (w : World) :
    Calls Tryz.prog 146 #[.string s] w fun e w' => e = .returned (.bool (resW s.data.toList)) ∧ w = w' := by
  have H := Lib.hid (Lib.toList_data s)
  go_enter Tryz.func146, Tryz.ntmps146
  go_wp2_with fail
  all_goals (go_ret; exact ⟨ret_bool (by rw [← H.out]; simp_all [resW, resWords]), rfl⟩)
set_option maxHeartbeats 1000000 in
theorem resS_any (s : ByteArray) (w : World) :
    Calls Tryz.prog 147 #[.string s] w fun e w' => e = .returned (.bool (resS s.data.toList)) ∧ w = w' := by
  have H := Lib.hid (Lib.toList_data s)
  go_enter Tryz.func147, Tryz.ntmps147
  go_wp2_with fail
  all_goals (go_ret; exact ⟨ret_bool (by rw [← H.out]; simp_all [resS, resSyms]), rfl⟩)
set_option maxHeartbeats 1000000 in
theorem rresW_any (s : ByteArray) (w : World) :
    Calls Tryz.prog 132 #[.string s] w fun e w' => e = .returned (.bool (resW s.data.toList)) ∧ w = w' := by
  have H := Lib.hid (Lib.toList_data s)
  go_enter Tryz.func132, Tryz.ntmps132
  go_wp2_with fail
  all_goals (go_ret; exact ⟨ret_bool (by rw [← H.out]; simp_all [resW, resWords]), rfl⟩)
set_option maxHeartbeats 1000000 in
theorem rresS_any (s : ByteArray) (w : World) :
    Calls Tryz.prog 135 #[.string s] w fun e w' => e = .returned (.bool (resS s.data.toList)) ∧ w = w' := by
  have H := Lib.hid (Lib.toList_data s)
  go_enter Tryz.func135, Tryz.ntmps135
  go_wp2_with fail
  all_goals (go_ret; exact ⟨ret_bool (by rw [← H.out]; simp_all [resS, resSyms]), rfl⟩)
end Go.Proofs.YtelichlplblboaaGreatDoor
namespace Go.Proofs.YtelichlplblboaaGreatDoor
open Go.RowKit Go.Sort
theorem gMax : Tryz.prog.globalNamed "internal/bytealg.MaxLen" = some 0 := by kernel_rfl
theorem gPow : Tryz.prog.globalNamed "internal/strconv.uint64pow10" = some 3 := by kernel_rfl
theorem gSyn : Tryz.prog.globalNamed "strconv.ErrSyntax" = some 4 := by kernel_rfl
theorem gRan : Tryz.prog.globalNamed "strconv.ErrRange" = some 5 := by kernel_rfl
/-- Against the world W in which a base call began: old blocks as they were, the library's variables as laid. -/
structure Q (W w : World) : Prop where
  bel : Below W.heap.size W w
  lo : 0 < W.heap.size ∧ 3 < W.heap.size ∧ 4 < W.heap.size ∧ 5 < W.heap.size
  m : ∃ m, w.cell? ⟨0, 0, none⟩ = some (.int .i64 m)
  tab : Lib.TabIs Tryz.prog w "internal/strconv.uint64pow10" .u64 Lib.pow10Tab
  es : ∃ tp p, w.var? Tryz.prog "strconv.ErrSyntax" = some #[.iface tp p]
  er : ∃ tp p, w.var? Tryz.prog "strconv.ErrRange" = some #[.iface tp p]
theorem Q.self {W w : World} (h : Q W w) : Q w w := { bel := Below.refl _ _, lo := by { have := h.lo; have := h.bel.size; omega }, m := h.m, tab := h.tab, es := h.es, er := h.er }
theorem var_lt {w : World} {n : String} {g : Nat} {cs : Array Value} (hg : Tryz.prog.globalNamed n = some g) (h : w.var? Tryz.prog n = some cs) : g < w.heap.size := by
  unfold World.var? at h
  rw [hg] at h
  simp only [Option.bind_some] at h
  by_cases hl : g < w.heap.size
  · exact hl
  · rw [Array.getElem?_eq_none (by omega)] at h; cases h
theorem cell_lt {w : World} {b o : Nat} {v : Value} (h : w.cell? ⟨b, o, none⟩ = some v) : b < w.heap.size := by
  by_cases hl : b < w.heap.size
  · exact hl
  · have : w.heap[b]? = none := Array.getElem?_eq_none (by omega)
    simp [World.cell?, this] at h
theorem Q.below {W w w' : World} (h : Q W w) (hb : Below w.heap.size w w') : Q W w' where
  bel := h.bel.trans (hb.mono h.bel.size)
  lo := h.lo
  m := by
    obtain ⟨m, hm⟩ := h.m
    exact ⟨m, (hb.cell (by exact cell_lt hm)).trans hm⟩
  tab := var?_below hb gPow (var_lt gPow h.tab) h.tab
  es := by
    obtain ⟨tp, p, hv⟩ := h.es
    exact ⟨tp, p, var?_below hb gSyn (var_lt gSyn hv) hv⟩
  er := by
    obtain ⟨tp, p, hv⟩ := h.er
    exact ⟨tp, p, var?_below hb gRan (var_lt gRan hv) hv⟩
theorem Q.step {W w w' : World} (h : Q W w) (h' : Q w w') : Q W w' := h.below h'.bel
theorem below_grow {B : Nat} {w : World} (hB : B ≤ w.heap.size) (k : Nat) (os : Array Obj) : Below B w (grow (w.drewN k) os) :=
  ⟨rfl, rfl, rfl, by simp [grow], fun i hi => by
    show (w.heap ++ os)[i]? = _
    rw [Array.getElem?_append_left (by omega)]⟩
theorem shape_q (s : ByteArray) (W w : World) (hs : s.size ≤ 1000000) (hq : Q W w) :
    Calls Tryz.prog 121 #[.string s] w fun e w' => e = .returned (.int .i64 (shp s.data.toList)) ∧ Q W w' :=
  (shapeOf_any s w (by omega)).mono fun _ _ ⟨he, hb⟩ => ⟨he, hq.below hb⟩
theorem cut_q (s : ByteArray) (W w : World) (hs : s.size ≤ 1000000) (hq : Q W w) :
    Calls Tryz.prog 173 #[.string s, .string ⟨#[46]⟩] w fun e w' => e = .returned (.tuple #[.string ⟨(Lib.cut s.data.toList [46]).1.toArray⟩, .string ⟨(Lib.cut s.data.toList [46]).2.1.toArray⟩, .bool (Lib.cut s.data.toList [46]).2.2]) ∧ Q W w' := by
  obtain ⟨m, hm⟩ := hq.m
  refine (Tryz.strings_Cut s ⟨#[46]⟩ m w (by omega) hm).mono fun _ _ ⟨he, n, hw⟩ => ⟨he, hq.below ?_⟩
  subst hw
  exact below_drewN (Below.refl _ _) n
theorem itoa_q (n : Int) (W w : World) (h0 : -9223372036854775808 ≤ n) (h1 : n ≤ 9223372036854775807) (hq : Q W w) :
    Calls Tryz.prog 106 #[.int .i64 n] w fun e w' => e = .returned (.string ⟨(Lib.itoa n).toArray⟩) ∧ Q W w' := by
  refine (Tryz.strconv_Itoa n h0 h1 w hq.tab).mono fun _ _ ⟨he, k, os, hw⟩ => ⟨he, hq.below ?_⟩
  subst hw
  exact below_grow (Nat.le_refl _) k os
/-- Atoi: the number, or some error. -/
theorem atoi_ok (s : ByteArray) (v : Int) (h : Lib.atoiAll s.data.toList = .ok v) (W w : World) (hs : s.size ≤ 1000000) (hq : Q W w) :
    Calls Tryz.prog 166 #[.string s] w fun e w' => e = .returned (.tuple #[.int .i64 v, .nilIface]) ∧ Q W w' := by
  refine (Tryz.strconv_Atoi_ok s (by omega) v h w).mono fun _ _ ⟨he, hw⟩ => ⟨he, hq.below ?_⟩
  rcases hw with hw | ⟨t, hw⟩
  · subst hw; exact Below.refl _ _
  · subst hw; exact Lib.bytesWorld_below _ _ _
theorem atoi_no (s : ByteArray) (h : ∀ v, Lib.atoiAll s.data.toList ≠ .ok v) (W w : World) (hs : s.size ≤ 1000000) (hq : Q W w) :
    Calls Tryz.prog 166 #[.string s] w fun e w' => (∃ v t p, e = .returned (.tuple #[.int .i64 v, .iface t p])) ∧ Q W w' := by
  cases hk : Lib.atoiAll s.data.toList
  · exact absurd hk (h _)
  · obtain ⟨tp, p, hv⟩ := hq.es
    have hc : Calls Tryz.prog 166 #[.string s] w fun e w' => ∃ N, e = .returned (.tuple #[.int .i64 0, .iface 155 (.pointer (some ⟨N, 0, none⟩))]) ∧ w.heap.size ≤ N ∧ w'.heap[N]? = some (.cells #[.string ⟨#[65, 116, 111, 105]⟩, .string s, .iface tp p] 162 (0, 0)) ∧ Below w.heap.size w w' :=
      Any.strconv_Atoi_syntax_var Tryz.laysC172 s (by omega) hk tp p w hv
    exact hc.mono fun _ _ ⟨N, he, _, _, hb⟩ => ⟨⟨_, _, _, he⟩, hq.below hb⟩
  · obtain ⟨tp, p, hv⟩ := hq.er
    exact (Tryz.strconv_Atoi_range_var s (by omega) hk tp p w hv).mono fun _ _ ⟨N, he, _, _, hb⟩ => ⟨⟨_, _, _, he⟩, hq.below hb⟩
end Go.Proofs.YtelichlplblboaaGreatDoor
namespace Go.Proofs.YtelichlplblboaaGreatDoor
open Go.RowKit
def hd (l : List UInt8) : Int := ((l.headD 0).toNat : Int)
def clsW (l : List UInt8) : Int := if resW l then 5 else if up (hd l) then 2 else 1
def clsS (l : List UInt8) : Int := if resS l then 6 else if hd l = 58 then 4 else 3
def named (l : List UInt8) : Bool := (wordB l && !resW l) || (symbolB l && !resS l)
def con (l : List UInt8) : Bool := wordB l && up (hd l)
def spl (l : List UInt8) : Bool := con (Lib.cut l [46]).1 && named (Lib.cut l [46]).2.1
def stem (l : List UInt8) : Bool := named l || spl l
theorem hd_eq {s : ByteArray} (h : 0 < s.size) : hd s.data.toList = (s[0].toNat : Int) := by
  have h' : 0 < s.data.toList.length := by rw [← Lib.size_eq]; exact h
  have e : s.data.toList.headD 0 = s[0] := by
    rw [show s[0] = s.data.toList[0] from rfl, ← List.head_eq_getElem (List.ne_nil_of_length_pos h'), List.headD_eq_head?_getD, List.head?_eq_some_head (List.ne_nil_of_length_pos h')]; rfl
  rw [hd, e]
theorem wordB_pos {l : List UInt8} (h : wordB l = true) : 1 ≤ l.length ∧ l.length ≤ 64 := by
  simp [wordB] at h; omega
theorem symbolB_pos {l : List UInt8} (h : symbolB l = true) : 1 ≤ l.length ∧ l.length ≤ 64 := by
  simp [symbolB] at h; omega
theorem word_not_symbol {l : List UInt8} (h : wordB l = true) : symbolB l = false := by
  cases hs : symbolB l
  · rfl
  · exfalso
    cases l with
    | nil => simp [wordB] at h
    | cons c r =>
      have h1 : sttB c = true := by simp [wordB] at h; exact h.1.2
      have h2 : syB c = true := by simp [symbolB] at hs; exact hs.1.2.1
      rw [sy_not_stt c h2] at h1; cases h1
/-- The shape, by cases. -/
theorem shp_cases (l : List UInt8) : (shp l = 1 ∧ wordB l = true ∧ symbolB l = false) ∨ (shp l = 2 ∧ wordB l = false ∧ symbolB l = true) ∨ (shp l = 0 ∧ wordB l = false ∧ symbolB l = false) := by
  cases h : wordB l
  · cases h2 : symbolB l
    · exact .inr (.inr ⟨by simp [shp, h, h2], rfl, rfl⟩)
    · exact .inr (.inl ⟨by simp [shp, h, h2], rfl, rfl⟩)
  · exact .inl ⟨by simp [shp, h], rfl, word_not_symbol h⟩
theorem shape_v (s : ByteArray) (v : Int) (W w : World) (hs : s.size ≤ 1000000) (hv : shp s.data.toList = v) (hq : Q W w) :
    Calls Tryz.prog 121 #[.string s] w fun e w' => e = .returned (.int .i64 v) ∧ Q W w' := hv ▸ shape_q s W w hs hq
set_option maxHeartbeats 400000 in
theorem isSimple_q (s : ByteArray) (W w : World) (hs : s.size ≤ 1000000) (hq : Q W w) :
    Calls Tryz.prog 164 #[.string s] w fun e w' => e = .returned (.bool (named s.data.toList)) ∧ Q W w' := by
  rcases shp_cases s.data.toList with ⟨h, h1, h2⟩ | ⟨h, h1, h2⟩ | ⟨h, h1, h2⟩
  all_goals
    have H := Lib.hid h
    have HN : Hid (named s.data.toList = ((wordB s.data.toList && !resW s.data.toList) || (symbolB s.data.toList && !resS s.data.toList))) := Lib.hid rfl
    have H1 := Lib.hid h1
    have H2 := Lib.hid h2
    clear h h1 h2
    go_enter Tryz.func164, Tryz.ntmps164
    go_wp2_with (first | (go_at_call 121; refine (shape_v _ _ _ _ hs H.out (by assumption)).mono ?_; rintro e w1 ⟨rfl, hq1⟩) | (go_at_call 146; refine (resW_any _ _).mono ?_; rintro e w' ⟨rfl, rfl⟩) | (go_at_call 147; refine (resS_any _ _).mono ?_; rintro e w' ⟨rfl, rfl⟩))
    go_ret
    exact ⟨ret_bool (by rw [HN.out, H1.out, H2.out]; simp), by assumption⟩
set_option maxHeartbeats 400000 in
theorem isModule_q (s : ByteArray) (W w : World) (hs : s.size ≤ 1000000) (hq : Q W w) :
    Calls Tryz.prog 174 #[.string s] w fun e w' => e = .returned (.bool (con s.data.toList)) ∧ Q W w' := by
  rcases shp_cases s.data.toList with ⟨h, h1, h2⟩ | ⟨h, h1, h2⟩ | ⟨h, h1, h2⟩
  · have h0 : 0 < s.size := by have := wordB_pos h1; rw [← Lib.size_eq] at this; omega
    have H := Lib.hid h
    have HN : Hid (con s.data.toList = up (s[0].toNat : Int)) := Lib.hid (by rw [con, h1, hd_eq h0]; rfl)
    clear h h1 h2
    go_enter Tryz.func174, Tryz.ntmps174
    go_wp2_with (first | (go_at_call 121; refine (shape_v _ _ _ _ hs H.out (by assumption)).mono ?_; rintro e w1 ⟨rfl, hq1⟩) | (go_at_call 86; refine (isUpper_any _ _).mono ?_; rintro e w' ⟨rfl, rfl⟩))
    go_ret
    exact ⟨ret_bool HN.out.symm, by assumption⟩
  all_goals
    have H := Lib.hid h
    have HN : Hid (con s.data.toList = false) := Lib.hid (by rw [con, h1]; rfl)
    clear h h1 h2
    go_enter Tryz.func174, Tryz.ntmps174
    go_wp2_with (first | (go_at_call 121; refine (shape_v _ _ _ _ hs H.out (by assumption)).mono ?_; rintro e w1 ⟨rfl, hq1⟩) | (go_at_call 86; refine (isUpper_any _ _).mono ?_; rintro e w' ⟨rfl, rfl⟩))
    go_ret
    exact ⟨ret_bool HN.out.symm, by assumption⟩
set_option maxHeartbeats 400000 in
theorem classOfWord_q (s : ByteArray) (w : World) (h0 : 0 < s.size) :
    Calls Tryz.prog 122 #[.string s] w fun e w' => e = .returned (.int .i64 (clsW s.data.toList)) ∧ w = w' := by
  have HN : Hid (clsW s.data.toList = if resW s.data.toList then (5 : Int) else if up (s[0].toNat : Int) then (2 : Int) else (1 : Int)) := Lib.hid (by rw [clsW, hd_eq h0])
  go_enter Tryz.func122, Tryz.ntmps122
  go_wp2_with (first | (go_at_call 146; refine (resW_any _ _).mono ?_; rintro e w' ⟨rfl, rfl⟩) | (go_at_call 86; refine (isUpper_any _ _).mono ?_; rintro e w' ⟨rfl, rfl⟩))
  all_goals (go_ret; exact ⟨ret_int (by rw [HN.out]; simp_all), rfl⟩)
set_option maxHeartbeats 400000 in
theorem classOfSymbol_q (s : ByteArray) (w : World) (h0 : 0 < s.size) :
    Calls Tryz.prog 123 #[.string s] w fun e w' => e = .returned (.int .i64 (clsS s.data.toList)) ∧ w = w' := by
  have HN : Hid (clsS s.data.toList = if resS s.data.toList then (6 : Int) else if (s[0].toNat : Int) = 58 then (4 : Int) else (3 : Int)) := Lib.hid (by rw [clsS, hd_eq h0])
  go_enter Tryz.func123, Tryz.ntmps123
  go_wp2_with (first | (go_at_call 147; refine (resS_any _ _).mono ?_; rintro e w' ⟨rfl, rfl⟩))
  all_goals (go_ret; exact ⟨ret_int (by rw [HN.out]; simp_all), rfl⟩)
end Go.Proofs.YtelichlplblboaaGreatDoor
