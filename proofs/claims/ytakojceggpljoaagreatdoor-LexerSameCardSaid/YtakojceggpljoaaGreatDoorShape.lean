/-
  WALKS. OnlyMinus; the shape of a string.
-/
import Derived.Test.YtakojceggpljoaaGreatDoorWords
namespace Go.Proofs.YtakojceggpljoaaGreatDoor
open Go.RowKit
def om (l : List UInt8) : Bool := decide (2 ≤ l.length) && l.all mn
theorem trimB_nil (l : List UInt8) : (Lib.trimB l 45).isEmpty = l.all mn := by
  have h1 : ∀ r : List UInt8, (r.dropWhile (· == (45 : UInt8))).isEmpty = r.all mn := by
    intro r
    induction r with
    | nil => rfl
    | cons c r ih =>
      by_cases h : c = 45
      · subst h; simpa [List.dropWhile, mn] using ih
      · have h' : (c == (45 : UInt8)) = false := by simp [h]
        simp [List.dropWhile, mn, h']
  have h2 : ∀ r : List UInt8, r.all mn = true → (r.dropWhile (· == (45 : UInt8))) = [] := by
    intro r h
    have := h1 r
    rw [h] at this
    exact List.isEmpty_iff.1 this
  have h3 : ∀ r : List UInt8, r.reverse.all mn = r.all mn := fun r => by simp
  unfold Lib.trimB Lib.trimLeftB Lib.trimRightB
  rw [h1, h3]
  cases h : l.all mn
  · rw [← h3] at h
    rw [Bool.eq_false_iff]
    intro hc
    have hd : (l.reverse.dropWhile (· == (45 : UInt8))).isEmpty = false := by rw [h1, h]
    cases hr : l.reverse.dropWhile (· == (45 : UInt8)) with
    | nil => rw [hr] at hd; simp at hd
    | cons c r =>
      rw [hr] at hc
      have hc0 : mn c = true := by simp at hc; exact hc.1
      have := List.head?_dropWhile_not (fun x => x == (45 : UInt8)) l.reverse
      rw [hr] at this
      simp at this
      simp [mn] at hc0
      exact this hc0
  · rw [h2 _ (by rw [h3]; exact h)]; rfl
set_option maxHeartbeats 1000000 in
theorem onlyMinus_any (s : ByteArray) (w : World) (hs : s.size ≤ 9223372036854775807) :
    Calls Tryz.prog 40 #[.string s] w fun e w' => e = .returned (.bool (om s.data.toList)) ∧ Below w.heap.size w w' := by
  have H := Lib.hid (trimB_nil s.data.toList)
  by_cases hl : 2 ≤ s.size
  · have e1 : decide (2 ≤ (s.size : Int)) = true := by simp; omega
    have HO : Hid (om s.data.toList = s.data.toList.all mn) := by
      show om s.data.toList = _
      unfold om
      rw [decide_eq_true (by rw [← Lib.size_eq]; exact hl)]; rfl
    go_enter Tryz.func40, Tryz.ntmps40
    go_wp2_with (first | (go_at_call 83; refine (Tryz.strings_Trim_one _ _ (by decide) _ hs).mono ?_; rintro e w1 ⟨rfl, hw⟩; have hb : Below w.heap.size w w1 := by (rcases hw with rfl | rfl; exact Below.refl _ _; exact (Below.refl _ _).drew)); clear hw)
    go_ret
    exact ⟨ret_bool (by rw [HO.out, H.out]), hb⟩
  · have e1 : decide (2 ≤ (s.size : Int)) = false := by simp; omega
    have HO : Hid (om s.data.toList = false) := by
      show om s.data.toList = _
      unfold om
      rw [decide_eq_false (by rw [← Lib.size_eq]; exact hl)]; rfl
    go_enter Tryz.func40, Tryz.ntmps40
    go_wp2
    go_ret
    exact ⟨ret_bool HO.out.symm, Below.refl _ _⟩
/-- 1: a word; 2: an operator; 0: neither. -/
def shp (l : List UInt8) : Int := if wordB l then 1 else if symbolB l then 2 else 0
theorem sy_not_stt (c : UInt8) (h : syB c = true) : sttB c = false := by
  have H : ∀ m : Fin 256, syB (UInt8.ofNat m.val) = true → sttB (UInt8.ofNat m.val) = false := by decide +kernel
  have e : UInt8.ofNat (⟨c.toNat, c.toNat_lt⟩ : Fin 256).val = c := by simp
  have := H ⟨c.toNat, c.toNat_lt⟩
  rw [e] at this
  exact this h
theorem shp_len {s : ByteArray} (h : s.size < 1 ∨ 64 < s.size) : shp s.data.toList = 0 := by
  simp [shp, wordB_len h, symbolB_len h]
theorem shp_none {s : ByteArray} (h : 0 < s.size) (h1 : syB s[0] = false) (h2 : sttB s[0] = false) : shp s.data.toList = 0 := by
  simp [shp, wordB_head h h2, symbolB_stop h h1]
theorem shp_word_end {s : ByteArray} (h0 : 1 ≤ s.size) (h1 : s.size ≤ 64) (h2 : sttB s[0] = true) {k : Nat} (hk : s.size ≤ k) (ha : (s.data.toList.take k).all wdB = true) : shp s.data.toList = 1 := by
  rw [take_end hk] at ha
  simp [shp, wordB_all h0 h1 h2, ha]
theorem shp_word_stop {s : ByteArray} (h0 : 1 ≤ s.size) (h1 : s.size ≤ 64) (h2 : sttB s[0] = true) (h3 : syB s[0] = false) {k : Nat} (hk : k < s.size) (hp : wdB s[k] = false) : shp s.data.toList = 0 := by
  have := symbolB_stop (show 0 < s.size from h0) h3
  simp only [shp, wordB_all h0 h1 h2, all_stop hk hp, this]; rfl
theorem shp_sym_stop {s : ByteArray} (h0 : 1 ≤ s.size) (h3 : syB s[0] = true) {k : Nat} (hk : k < s.size) (hp : syB s[k] = false) : shp s.data.toList = 0 := by
  have := wordB_head (show 0 < s.size from h0) (sy_not_stt _ h3)
  simp only [shp, this, symbolB_stop hk hp]; rfl
theorem shp_sym_end {s : ByteArray} (h0 : 1 ≤ s.size) (h1 : s.size ≤ 64) (h3 : syB s[0] = true) {k : Nat} (hk : s.size ≤ k) (ha : (s.data.toList.take k).all syB = true) : shp s.data.toList = if om s.data.toList then 0 else 2 := by
  have h4 := wordB_head (show 0 < s.size from h0) (sy_not_stt _ h3)
  rw [take_end hk] at ha
  rw [Lib.size_eq] at h0 h1
  have : symbolB s.data.toList = !om s.data.toList := by
    unfold symbolB om
    rw [decide_eq_true h0, decide_eq_true h1, ha]
    by_cases h : s.data.toList.length = 1
    · rw [decide_eq_true h, decide_eq_false (show ¬ 2 ≤ s.data.toList.length by omega)]; simp
    · rw [decide_eq_false h, decide_eq_true (show 2 ≤ s.data.toList.length by omega)]; simp
  simp only [shp, h4, this]
  cases om s.data.toList <;> rfl
set_option maxHeartbeats 1000000 in
theorem shapeOf_any (s : ByteArray) (w : World) (hs : s.size ≤ 9223372036854775807) :
    Calls Tryz.prog 121 #[.string s] w fun e w' => e = .returned (.int .i64 (shp s.data.toList)) ∧ Below w.heap.size w w' := by
  have HT := Lib.hid (Lib.toList_data s)
  by_cases hl : 1 ≤ s.size ∧ s.size ≤ 64
  · obtain ⟨hl1, hl2⟩ := hl
    have h0 : 0 < s.size := hl1
    have e1 : s.toList.isEmpty = false := by
      rw [HT.out, List.isEmpty_eq_false_iff, ← List.length_pos_iff, ← Lib.size_eq]; exact h0
    have e2 : decide (64 < (s.size : Int)) = false := by simp; omega
    cases h3 : syB s[0]
    · cases h4 : sttB s[0]
      · have HS := Lib.hid (shp_none h0 h3 h4)
        have h3' : sy (s[0].toNat : Int) = false := h3
        have h4' : stt (s[0].toNat : Int) = false := h4
        clear h3 h4
        go_enter Tryz.func121, Tryz.ntmps121
        go_wp2_with (first | (go_at_call 42; refine (isSymbol_any _ _).mono ?_; rintro e w' ⟨rfl, rfl⟩) | (go_at_call 43; refine (isStart_any _ _).mono ?_; rintro e w' ⟨rfl, rfl⟩))
        go_step3
        go_wp2_with (first | (go_at_call 42; refine (isSymbol_any _ _).mono ?_; rintro e w' ⟨rfl, rfl⟩) | (go_at_call 43; refine (isStart_any _ _).mono ?_; rintro e w' ⟨rfl, rfl⟩))
        try rw [Exit.noGoto_ret]
        go_ret
        exact ⟨ret_int HS.out.symm, Below.refl _ _⟩
      · have H3 := Lib.hid h3
        have H4 := Lib.hid h4
        have h3' : sy (s[0].toNat : Int) = false := h3
        have h4' : stt (s[0].toNat : Int) = true := h4
        have H0 := Lib.hid (show wdB s[0] = true by have : stt (s[0].toNat : Int) = true := h4; simp [wdB, wd, this])
        clear h3 h4
        go_enter Tryz.func121, Tryz.ntmps121
        go_wp2_with (first | (go_at_call 42; refine (isSymbol_any _ _).mono ?_; rintro e w' ⟨rfl, rfl⟩) | (go_at_call 43; refine (isStart_any _ _).mono ?_; rintro e w' ⟨rfl, rfl⟩))
        go_step3
        go_wp2_with (first | (go_at_call 42; refine (isSymbol_any _ _).mono ?_; rintro e w' ⟨rfl, rfl⟩) | (go_at_call 43; refine (isStart_any _ _).mono ?_; rintro e w' ⟨rfl, rfl⟩))
        go_step3
        go_wp2
        go_loop [3, 4] (fun m i => ∃ k : Nat, 1 ≤ k ∧ k ≤ s.size ∧ i = .int .i64 k ∧ m = .int .i64 1 ∧ (s.data.toList.take k).all wdB = true) (fun _ i => s.size - (intOf i).toNat)
        case atStart => exact ⟨1, by omega, by omega, rfl, rfl, by rw [take_one h0]; simp [H0.out]⟩
        case round =>
          obtain ⟨k, hk1, hk, rfl, rfl, hno⟩ := hrel
          have HN := Lib.hid hno
          clear hno
          by_cases hlt : k < s.size
          · cases hp : wdB s[k]
            · have hp' : wd (s[k].toNat : Int) = false := hp
              have HS := Lib.hid (shp_word_stop hl1 hl2 H4.out H3.out hlt hp)
              clear hp
              go_wp2_with (first | (go_at_call 42; refine (isSymbol_any _ _).mono ?_; rintro e w' ⟨rfl, rfl⟩) | (go_at_call 90; refine (isWord_any _ _).mono ?_; rintro e w' ⟨rfl, rfl⟩))
              rw [Exit.noGoto_ret]
              go_ret
              exact ⟨ret_int HS.out.symm, Below.refl _ _⟩
            · have hp' : wd (s[k].toNat : Int) = true := hp
              have HP := Lib.hid hp
              clear hp
              go_wp2_with (first | (go_at_call 42; refine (isSymbol_any _ _).mono ?_; rintro e w' ⟨rfl, rfl⟩) | (go_at_call 90; refine (isWord_any _ _).mono ?_; rintro e w' ⟨rfl, rfl⟩))
              exact ⟨⟨k + 1, by omega, by omega, by go_num, rfl, all_step hlt HP.out HN.out⟩, by simp [intOf]; omega⟩
          · have HS := Lib.hid (shp_word_end hl1 hl2 H4.out (show s.size ≤ k by omega) HN.out)
            go_wp2
            go_ret
            exact ⟨ret_int HS.out.symm, Below.refl _ _⟩
    · have H3 := Lib.hid h3
      have h3' : sy (s[0].toNat : Int) = true := h3
      clear h3
      go_enter Tryz.func121, Tryz.ntmps121
      go_wp2_with (first | (go_at_call 42; refine (isSymbol_any _ _).mono ?_; rintro e w' ⟨rfl, rfl⟩) | (go_at_call 43; refine (isStart_any _ _).mono ?_; rintro e w' ⟨rfl, rfl⟩))
      go_step3
      go_wp2_with (first | (go_at_call 42; refine (isSymbol_any _ _).mono ?_; rintro e w' ⟨rfl, rfl⟩) | (go_at_call 43; refine (isStart_any _ _).mono ?_; rintro e w' ⟨rfl, rfl⟩))
      go_step3
      go_wp2
      go_loop [3, 4] (fun m i => ∃ k : Nat, 1 ≤ k ∧ k ≤ s.size ∧ i = .int .i64 k ∧ m = .int .i64 2 ∧ (s.data.toList.take k).all syB = true) (fun _ i => s.size - (intOf i).toNat)
      case atStart => exact ⟨1, by omega, by omega, rfl, rfl, by rw [take_one h0]; simp [H3.out]⟩
      case round =>
        obtain ⟨k, hk1, hk, rfl, rfl, hno⟩ := hrel
        have HN := Lib.hid hno
        clear hno
        by_cases hlt : k < s.size
        · cases hp : syB s[k]
          · have hp' : sy (s[k].toNat : Int) = false := hp
            have HS := Lib.hid (shp_sym_stop hl1 H3.out hlt hp)
            clear hp
            go_wp2_with (first | (go_at_call 42; refine (isSymbol_any _ _).mono ?_; rintro e w' ⟨rfl, rfl⟩) | (go_at_call 90; refine (isWord_any _ _).mono ?_; rintro e w' ⟨rfl, rfl⟩))
            rw [Exit.noGoto_ret]
            go_ret
            exact ⟨ret_int HS.out.symm, Below.refl _ _⟩
          · have hp' : sy (s[k].toNat : Int) = true := hp
            have HP := Lib.hid hp
            clear hp
            go_wp2_with (first | (go_at_call 42; refine (isSymbol_any _ _).mono ?_; rintro e w' ⟨rfl, rfl⟩) | (go_at_call 90; refine (isWord_any _ _).mono ?_; rintro e w' ⟨rfl, rfl⟩))
            exact ⟨⟨k + 1, by omega, by omega, by go_num, rfl, all_step hlt HP.out HN.out⟩, by simp [intOf]; omega⟩
        · have HS := Lib.hid (shp_sym_end hl1 hl2 H3.out (show s.size ≤ k by omega) HN.out)
          cases hom : om s.data.toList
          all_goals
            have HO := Lib.hid hom
            go_wp2_with (first | (go_at_call 40; refine (onlyMinus_any _ _ hs).mono ?_; rintro e w1 ⟨rfl, hb⟩))
            first
              | (go_ret; exact ⟨ret_int (by rw [HS.out, HO.out]; rfl), hb⟩)
              | (rw [Exit.noGoto_ret]; go_ret; exact ⟨ret_int (by rw [HS.out, HO.out]; rfl), hb⟩)
  · have HS := Lib.hid (shp_len (s := s) (by omega))
    by_cases hz : s.size < 1
    · have e1 : s.toList.isEmpty = true := by
        rw [HT.out, List.isEmpty_iff, ← List.length_eq_zero_iff, ← Lib.size_eq]; omega
      clear hl
      go_enter Tryz.func121, Tryz.ntmps121
      go_wp2
      go_step3
      go_wp2
      rw [Exit.noGoto_ret]
      go_ret
      exact ⟨ret_int HS.out.symm, Below.refl _ _⟩
    · have e1 : s.toList.isEmpty = false := by
        rw [HT.out, List.isEmpty_eq_false_iff, ← List.length_pos_iff, ← Lib.size_eq]; omega
      have e2 : decide (64 < (s.size : Int)) = true := by simp; omega
      have e3 : 64 < (s.size : Int) := by omega
      clear hl
      go_enter Tryz.func121, Tryz.ntmps121
      go_wp2
      go_step3
      go_wp2
      rw [Exit.noGoto_ret]
      go_ret
      exact ⟨ret_int HS.out.symm, Below.refl _ _⟩
end Go.Proofs.YtakojceggpljoaaGreatDoor
