/-
  WALKS. The scanner's comments; accept.
-/
import Derived.Test.YtakojceggpljoaaGreatDoorLId2
import Derived.Deep.AppendLies
import Derived.Deep.RegionLaw
namespace Go.Proofs.YtakojceggpljoaaGreatDoor
open Go.RowKit Go.Maps
section
variable {W w : World} {b : Nat} {s : ByteArray} {i0 i : Nat} {tk : Value} {F : Flt}
/-- What a unit that is no token does. -/
def SkPost (w : World) (b : Nat) (s : ByteArray) (i0 : Nat) (tk : Value) (F : Flt) (o : RR Unit) (r : Ending) (w' : World) : Prop :=
  match o with
  | .ok _ e => r = .returned (.bool true) ∧ Scn w' b s (pos s i0) (pos s e) tk F ∧ Only (· = b) w w'
  | .bad f => r = .returned (.bool false) ∧ Bad b s i0 tk f w' ∧ Only (· = b) w w'
theorem sk_ok {w' : World} {e : Nat} {o : RR Unit} {r : Ending} (h : o = .ok () e) (hr : r = .returned (.bool true)) (hS : Scn w' b s (pos s i0) (pos s e) tk F) (hO : Only (· = b) w w') : SkPost w b s i0 tk F o r w' := by
  subst h; exact ⟨hr, hS, hO⟩
theorem sk_bad {w' : World} {f : Flt} {o : RR Unit} {r : Ending} (h : o = .bad f) (hr : r = .returned (.bool false)) (hS : Bad b s i0 tk f w') (hO : Only (· = b) w w') : SkPost w b s i0 tk F o r w' := by
  subst h; exact ⟨hr, hS, hO⟩
set_option maxRecDepth 100000 in
set_option maxHeartbeats 2000000 in
theorem line_p (hS : Scn w b s (pos s i) (pos s i) tk F) (hz : s.size ≤ 65536) (hi : i ≤ s.size) :
    Calls Tryz.prog 48 #[.pointer (some ⟨b, 0, none⟩)] w (SkPost w b s i tk F (linR s i)) := by
  go_enter Tryz.func48, Tryz.ntmps48
  go_wp2
  go_loopg [] (s.size - i) (fun k wr => ∃ (j : Nat), Hid (linF s k j = linR s i) ∧ j + k = s.size ∧ Scn wr b s (pos s i) (pos s j) tk F ∧ Only (· = b) w wr)
  case atStart => exact ⟨i, Lib.hid rfl, by omega, hS, Only.refl _ _⟩
  case round =>
    obtain ⟨j, HI, hj, hS1, hO1⟩ := hrel
    have hji : j ≤ s.size := by omega
    obtain ⟨y, hy⟩ : ∃ y, byteAt s j = y := ⟨_, rfl⟩
    have HY := Lib.hid hy
    by_cases hjl : j < s.size
    · obtain ⟨k', hk'⟩ : ∃ k', gk = k' + 1 := ⟨gk - 1, by omega⟩
      subst hk'
      by_cases hq : y = 10
      · have HP : Hid (linR s i = .ok () j) := Lib.hid (by have h := HI.out; unfold linF at h; rw [hy, if_pos hq] at h; exact h.symm)
        have e10 : (y != 10) = false := by simp [hq]
        clear hy hq
        go_wp2_with (first | (go_at_call 38; refine (ended_no hS1 hjl).mono ?_; rintro r w1 ⟨rfl, hO1'⟩; have hS1' := hS1.keep hO1') | (go_at_call 37; ((with_reducible refine (peek0 hS1' HY.out hz hji).mono ?_); rintro r w2 ⟨rfl, hO2⟩; have hS2 := hS1'.keep hO2)))
        go_ret
        exact sk_ok HP.out rfl hS2 ((hO1.trans hO1'.lift).trans hO2.lift)
      · have e10 : (y != 10) = true := by simp [hq]
        cases hg : gd y
        · have HP : Hid (linR s i = .bad (flt s 5 nil8 j)) := Lib.hid (by have h := HI.out; unfold linF at h; rw [hy, if_neg hq, if_pos hg] at h; exact h.symm)
          have HG := Lib.hid hg
          clear hy hq hg
          go_wp2_with (first | (go_at_call 38; refine (ended_no hS1 hjl).mono ?_; rintro r w1 ⟨rfl, hO1'⟩; have hS1' := hS1.keep hO1') | (go_at_call 37; ((with_reducible refine (peek0 hS1' HY.out hz hji).mono ?_); rintro r w2 ⟨rfl, hO2⟩; have hS2 := hS1'.keep hO2)) | (go_at_call 37; ((with_reducible refine (peek0 hS2 HY.out hz hji).mono ?_); rintro r w3 ⟨rfl, hO3⟩; have hS3 := hS2.keep hO3)) | (go_at_call 88; refine (isSourceByte_any _ _).mono ?_; rw [HG.out]; rintro r w5 ⟨rfl, rfl⟩) | (go_at_call 46; refine (failHere_p hS3).mono ?_; rintro r w7 ⟨rfl, hB7, hO7⟩))
          go_ret
          exact sk_bad HP.out rfl hB7 ((((hO1.trans hO1'.lift).trans hO2.lift).trans hO3.lift).trans hO7)
        · have HP : Hid (linF s k' (j + 1) = linR s i) := Lib.hid (by have h := HI.out; unfold linF at h; rw [hy, if_neg hq, if_neg (by rw [hg]; decide)] at h; exact h)
          have HG := Lib.hid hg
          clear hy hq hg
          go_wp2_with (first | (go_at_call 38; refine (ended_no hS1 hjl).mono ?_; rintro r w1 ⟨rfl, hO1'⟩; have hS1' := hS1.keep hO1') | (go_at_call 37; ((with_reducible refine (peek0 hS1' HY.out hz hji).mono ?_); rintro r w2 ⟨rfl, hO2⟩; have hS2 := hS1'.keep hO2)) | (go_at_call 37; ((with_reducible refine (peek0 hS2 HY.out hz hji).mono ?_); rintro r w3 ⟨rfl, hO3⟩; have hS3 := hS2.keep hO3)) | (go_at_call 88; refine (isSourceByte_any _ _).mono ?_; rw [HG.out]; rintro r w5 ⟨rfl, rfl⟩) | (go_at_call 39; refine (skip1 hS3 hz hjl).mono ?_; rintro r w7 ⟨rfl, hS7, hO7⟩))
          go_roundg k'
          case rel => exact ⟨j + 1, HP, by omega, hS7, (((hO1.trans hO1'.lift).trans hO2.lift).trans hO3.lift).trans hO7⟩
          case measure => omega
    · have hje : j = s.size := by omega
      have hk0 : gk = 0 := by omega
      subst hk0
      have HP : Hid (linR s i = .ok () j) := Lib.hid HI.out.symm
      clear hjl
      have HJ := Lib.hid hje
      clear hje hy
      go_wp2_with (first | (go_at_call 38; refine (ended_yes hS1 HJ.out).mono ?_; rintro r w1 ⟨rfl, hO1'⟩; have hS1' := hS1.keep hO1'))
      go_ret
      exact sk_ok HP.out rfl hS1' (hO1.trans hO1'.lift)
set_option maxRecDepth 100000 in
set_option maxHeartbeats 2000000 in
theorem comment_p (hS : Scn w b s (pos s i) (pos s i) tk F) (hz : s.size ≤ 65536) (hi : i ≤ s.size) :
    Calls Tryz.prog 47 #[.pointer (some ⟨b, 0, none⟩)] w (SkPost w b s i tk F (comR s i)) := by
  go_enter Tryz.func47, Tryz.ntmps47
  go_wp2
  go_loopg [3] (s.size - i) (fun k v wr => ∃ (j : Nat) (d : Int), Hid (comF s i k j d = comR s i) ∧ v = .int .i64 d ∧ s.size ≤ j + k ∧ j ≤ s.size ∧ -(j : Int) ≤ d ∧ d ≤ (j : Int) ∧ Scn wr b s (pos s i) (pos s j) tk F ∧ Only (· = b) w wr)
  case atStart => exact ⟨i, 0, Lib.hid rfl, rfl, by omega, by omega, by omega, by omega, hS, Only.refl _ _⟩
  case round =>
    obtain ⟨j, d, HI, rfl, hj, hji, hd0, hd1, hS1, hO1⟩ := hrel
    obtain ⟨y, hy⟩ : ∃ y, byteAt s j = y := ⟨_, rfl⟩
    obtain ⟨x, hx⟩ : ∃ x, byteAt s (j + 1) = x := ⟨_, rfl⟩
    have HY := Lib.hid hy
    have HX := Lib.hid hx
    by_cases hjl : j < s.size
    · obtain ⟨k', hk'⟩ : ∃ k', gk = k' + 1 := ⟨gk - 1, by omega⟩
      subst hk'
      by_cases h1 : y = 123 ∧ x = 45
      · have HI1 : Hid ((if d + 1 = 0 then RR.ok () (j + 2) else comF s i k' (j + 2) (d + 1)) = comR s i) := Lib.hid (by have h := HI.out; unfold comF at h; rw [hy, hx, if_pos hjl, if_pos h1] at h; exact h)
        have hj2 : j + 2 ≤ s.size := by have := byteAt_pos (s := s) (i := j + 1) (by omega); omega
        have e1 : (y == 123) = true := by simp [h1.1]
        have e2 : (x == 45) = true := by simp [h1.2]
        clear hy hx h1 HI
        by_cases hd : d + 1 = 0
        · have HP : Hid (comR s i = .ok () (j + 2)) := Lib.hid (by rw [← HI1.out, if_pos hd])
          have ed : (d + 1 == 0) = true := by simp [hd]
          clear hd
          go_wp2_with (first | (go_at_call 38; refine (ended_no hS1 hjl).mono ?_; rintro r w1 ⟨rfl, hO1'⟩; have hS1' := hS1.keep hO1') | (go_at_call 37; ((with_reducible refine (peek0 hS1' HY.out hz hji).mono ?_); rintro r w2 ⟨rfl, hO2⟩; have hS2 := hS1'.keep hO2)) | (go_at_call 37; ((with_reducible refine (peek1 hS2 HX.out hz hji).mono ?_); rintro r w3 ⟨rfl, hO3⟩; have hS3 := hS2.keep hO3)) | (go_at_call 39; refine (skip2 hS3 hz hj2).mono ?_; rintro r w7 ⟨rfl, hS7, hO7⟩))
          go_ret
          exact sk_ok HP.out rfl hS7 ((((hO1.trans hO1'.lift).trans hO2.lift).trans hO3.lift).trans hO7)
        · have HP : Hid (comF s i k' (j + 2) (d + 1) = comR s i) := Lib.hid (by rw [← HI1.out, if_neg hd])
          have ed : (d + 1 == 0) = false := by simp [hd]
          clear hd
          go_wp2_with (first | (go_at_call 38; refine (ended_no hS1 hjl).mono ?_; rintro r w1 ⟨rfl, hO1'⟩; have hS1' := hS1.keep hO1') | (go_at_call 37; ((with_reducible refine (peek0 hS1' HY.out hz hji).mono ?_); rintro r w2 ⟨rfl, hO2⟩; have hS2 := hS1'.keep hO2)) | (go_at_call 37; ((with_reducible refine (peek1 hS2 HX.out hz hji).mono ?_); rintro r w3 ⟨rfl, hO3⟩; have hS3 := hS2.keep hO3)) | (go_at_call 39; refine (skip2 hS3 hz hj2).mono ?_; rintro r w7 ⟨rfl, hS7, hO7⟩))
          go_roundg k'
          case rel => exact ⟨j + 2, d + 1, HP, rfl, by omega, by omega, by omega, by omega, hS7, (((hO1.trans hO1'.lift).trans hO2.lift).trans hO3.lift).trans hO7⟩
          case measure => omega
      · by_cases h2 : y = 45 ∧ x = 125
        · have HI1 : Hid ((if d - 1 = 0 then RR.ok () (j + 2) else comF s i k' (j + 2) (d - 1)) = comR s i) := Lib.hid (by have h := HI.out; unfold comF at h; rw [hy, hx, if_pos hjl, if_neg h1, if_pos h2] at h; exact h)
          have hj2 : j + 2 ≤ s.size := by have := byteAt_pos (s := s) (i := j + 1) (by omega); omega
          have e1 : (y == 123) = false := by simp [h2.1]
          have e2 : (y == 45) = true := by simp [h2.1]
          have e3 : (x == 125) = true := by simp [h2.2]
          clear hy hx h1 h2 HI
          by_cases hd : d - 1 = 0
          · have HP : Hid (comR s i = .ok () (j + 2)) := Lib.hid (by rw [← HI1.out, if_pos hd])
            have ed : (d - 1 == 0) = true := by simp [hd]
            clear hd
            go_wp2_with (first | (go_at_call 38; refine (ended_no hS1 hjl).mono ?_; rintro r w1 ⟨rfl, hO1'⟩; have hS1' := hS1.keep hO1') | (go_at_call 37; ((with_reducible refine (peek0 hS1' HY.out hz hji).mono ?_); rintro r w2 ⟨rfl, hO2⟩; have hS2 := hS1'.keep hO2)) | (go_at_call 37; ((with_reducible refine (peek1 hS2 HX.out hz hji).mono ?_); rintro r w3 ⟨rfl, hO3⟩; have hS3 := hS2.keep hO3)) | (go_at_call 39; refine (skip2 hS3 hz hj2).mono ?_; rintro r w7 ⟨rfl, hS7, hO7⟩))
            go_ret
            exact sk_ok HP.out rfl hS7 ((((hO1.trans hO1'.lift).trans hO2.lift).trans hO3.lift).trans hO7)
          · have HP : Hid (comF s i k' (j + 2) (d - 1) = comR s i) := Lib.hid (by rw [← HI1.out, if_neg hd])
            have ed : (d - 1 == 0) = false := by simp [hd]
            clear hd
            go_wp2_with (first | (go_at_call 38; refine (ended_no hS1 hjl).mono ?_; rintro r w1 ⟨rfl, hO1'⟩; have hS1' := hS1.keep hO1') | (go_at_call 37; ((with_reducible refine (peek0 hS1' HY.out hz hji).mono ?_); rintro r w2 ⟨rfl, hO2⟩; have hS2 := hS1'.keep hO2)) | (go_at_call 37; ((with_reducible refine (peek1 hS2 HX.out hz hji).mono ?_); rintro r w3 ⟨rfl, hO3⟩; have hS3 := hS2.keep hO3)) | (go_at_call 39; refine (skip2 hS3 hz hj2).mono ?_; rintro r w7 ⟨rfl, hS7, hO7⟩))
            go_roundg k'
            case rel => exact ⟨j + 2, d - 1, HP, rfl, by omega, by omega, by omega, by omega, hS7, (((hO1.trans hO1'.lift).trans hO2.lift).trans hO3.lift).trans hO7⟩
            case measure => omega
        · have HI1 : Hid ((if gd y = false then RR.bad (flt s 5 nil8 j) else if d = 0 then RR.ok () (j + 1) else comF s i k' (j + 1) d) = comR s i) := Lib.hid (by have h := HI.out; unfold comF at h; rw [hy, hx, if_pos hjl, if_neg h1, if_neg h2] at h; exact h)
          have hs : (y = 123 ∧ ¬ x = 45) ∨ (y = 45 ∧ ¬ x = 125) ∨ (¬ y = 123 ∧ ¬ y = 45) := by omega
          clear hy hx h1 h2 HI
          rcases hs with ⟨k1, k2⟩ | ⟨k1, k2⟩ | ⟨k1, k2⟩
          · have e1 : (y == 123) = true := by simp [k1]
            have e2 : (x == 45) = false := by simp [k2]
            have e3 : (y == 45) = false := by simp [k1]
            clear k1 k2
            cases hg : gd y
            · have HP : Hid (comR s i = .bad (flt s 5 nil8 j)) := Lib.hid (by rw [← HI1.out, if_pos hg])
              have HG := Lib.hid hg
              clear hg
              go_wp2_with (first | (go_at_call 38; refine (ended_no hS1 hjl).mono ?_; rintro r w1 ⟨rfl, hO1'⟩; have hS1' := hS1.keep hO1') | (go_at_call 37; ((with_reducible refine (peek0 hS1' HY.out hz hji).mono ?_); rintro r w2 ⟨rfl, hO2⟩; have hS2 := hS1'.keep hO2)) | (go_at_call 37; ((with_reducible refine (peek1 hS2 HX.out hz hji).mono ?_); rintro r w3 ⟨rfl, hO3⟩; have hS3 := hS2.keep hO3)) | (go_at_call 88; refine (isSourceByte_any _ _).mono ?_; rw [HG.out]; rintro r w5 ⟨rfl, rfl⟩) | (go_at_call 46; refine (failHere_p hS3).mono ?_; rintro r w7 ⟨rfl, hB7, hO7⟩))
              go_ret
              exact sk_bad HP.out rfl hB7 ((((hO1.trans hO1'.lift).trans hO2.lift).trans hO3.lift).trans hO7)
            · have HI0 := HI1
              have HI1 : Hid ((if d = 0 then RR.ok () (j + 1) else comF s i k' (j + 1) d) = comR s i) := Lib.hid (by have h := HI0.out; rw [if_neg (show ¬ (gd y = false) from by rw [hg]; decide)] at h; exact h)
              have HG := Lib.hid hg
              clear hg HI0
              by_cases hd : d = 0
              · have HP : Hid (comR s i = .ok () (j + 1)) := Lib.hid (by rw [← HI1.out, if_pos hd])
                have ed : (d == 0) = true := by simp [hd]
                clear hd
                go_wp2_with (first | (go_at_call 38; refine (ended_no hS1 hjl).mono ?_; rintro r w1 ⟨rfl, hO1'⟩; have hS1' := hS1.keep hO1') | (go_at_call 37; ((with_reducible refine (peek0 hS1' HY.out hz hji).mono ?_); rintro r w2 ⟨rfl, hO2⟩; have hS2 := hS1'.keep hO2)) | (go_at_call 37; ((with_reducible refine (peek1 hS2 HX.out hz hji).mono ?_); rintro r w3 ⟨rfl, hO3⟩; have hS3 := hS2.keep hO3)) | (go_at_call 88; refine (isSourceByte_any _ _).mono ?_; rw [HG.out]; rintro r w5 ⟨rfl, rfl⟩) | (go_at_call 39; refine (skip1 hS3 hz hjl).mono ?_; rintro r w7 ⟨rfl, hS7, hO7⟩))
                go_ret
                exact sk_ok HP.out rfl hS7 ((((hO1.trans hO1'.lift).trans hO2.lift).trans hO3.lift).trans hO7)
              · have HP : Hid (comF s i k' (j + 1) (d) = comR s i) := Lib.hid (by rw [← HI1.out, if_neg hd])
                have ed : (d == 0) = false := by simp [hd]
                clear hd
                go_wp2_with (first | (go_at_call 38; refine (ended_no hS1 hjl).mono ?_; rintro r w1 ⟨rfl, hO1'⟩; have hS1' := hS1.keep hO1') | (go_at_call 37; ((with_reducible refine (peek0 hS1' HY.out hz hji).mono ?_); rintro r w2 ⟨rfl, hO2⟩; have hS2 := hS1'.keep hO2)) | (go_at_call 37; ((with_reducible refine (peek1 hS2 HX.out hz hji).mono ?_); rintro r w3 ⟨rfl, hO3⟩; have hS3 := hS2.keep hO3)) | (go_at_call 88; refine (isSourceByte_any _ _).mono ?_; rw [HG.out]; rintro r w5 ⟨rfl, rfl⟩) | (go_at_call 39; refine (skip1 hS3 hz hjl).mono ?_; rintro r w7 ⟨rfl, hS7, hO7⟩))
                go_roundg k'
                case rel => exact ⟨j + 1, d, HP, rfl, by omega, by omega, by omega, by omega, hS7, (((hO1.trans hO1'.lift).trans hO2.lift).trans hO3.lift).trans hO7⟩
                case measure => omega
          · have e1 : (y == 123) = false := by simp [k1]
            have e2 : (y == 45) = true := by simp [k1]
            have e3 : (x == 125) = false := by simp [k2]
            clear k1 k2
            cases hg : gd y
            · have HP : Hid (comR s i = .bad (flt s 5 nil8 j)) := Lib.hid (by rw [← HI1.out, if_pos hg])
              have HG := Lib.hid hg
              clear hg
              go_wp2_with (first | (go_at_call 38; refine (ended_no hS1 hjl).mono ?_; rintro r w1 ⟨rfl, hO1'⟩; have hS1' := hS1.keep hO1') | (go_at_call 37; ((with_reducible refine (peek0 hS1' HY.out hz hji).mono ?_); rintro r w2 ⟨rfl, hO2⟩; have hS2 := hS1'.keep hO2)) | (go_at_call 37; ((with_reducible refine (peek1 hS2 HX.out hz hji).mono ?_); rintro r w3 ⟨rfl, hO3⟩; have hS3 := hS2.keep hO3)) | (go_at_call 88; refine (isSourceByte_any _ _).mono ?_; rw [HG.out]; rintro r w5 ⟨rfl, rfl⟩) | (go_at_call 46; refine (failHere_p hS3).mono ?_; rintro r w7 ⟨rfl, hB7, hO7⟩))
              go_ret
              exact sk_bad HP.out rfl hB7 ((((hO1.trans hO1'.lift).trans hO2.lift).trans hO3.lift).trans hO7)
            · have HI0 := HI1
              have HI1 : Hid ((if d = 0 then RR.ok () (j + 1) else comF s i k' (j + 1) d) = comR s i) := Lib.hid (by have h := HI0.out; rw [if_neg (show ¬ (gd y = false) from by rw [hg]; decide)] at h; exact h)
              have HG := Lib.hid hg
              clear hg HI0
              by_cases hd : d = 0
              · have HP : Hid (comR s i = .ok () (j + 1)) := Lib.hid (by rw [← HI1.out, if_pos hd])
                have ed : (d == 0) = true := by simp [hd]
                clear hd
                go_wp2_with (first | (go_at_call 38; refine (ended_no hS1 hjl).mono ?_; rintro r w1 ⟨rfl, hO1'⟩; have hS1' := hS1.keep hO1') | (go_at_call 37; ((with_reducible refine (peek0 hS1' HY.out hz hji).mono ?_); rintro r w2 ⟨rfl, hO2⟩; have hS2 := hS1'.keep hO2)) | (go_at_call 37; ((with_reducible refine (peek1 hS2 HX.out hz hji).mono ?_); rintro r w3 ⟨rfl, hO3⟩; have hS3 := hS2.keep hO3)) | (go_at_call 88; refine (isSourceByte_any _ _).mono ?_; rw [HG.out]; rintro r w5 ⟨rfl, rfl⟩) | (go_at_call 39; refine (skip1 hS3 hz hjl).mono ?_; rintro r w7 ⟨rfl, hS7, hO7⟩))
                go_ret
                exact sk_ok HP.out rfl hS7 ((((hO1.trans hO1'.lift).trans hO2.lift).trans hO3.lift).trans hO7)
              · have HP : Hid (comF s i k' (j + 1) (d) = comR s i) := Lib.hid (by rw [← HI1.out, if_neg hd])
                have ed : (d == 0) = false := by simp [hd]
                clear hd
                go_wp2_with (first | (go_at_call 38; refine (ended_no hS1 hjl).mono ?_; rintro r w1 ⟨rfl, hO1'⟩; have hS1' := hS1.keep hO1') | (go_at_call 37; ((with_reducible refine (peek0 hS1' HY.out hz hji).mono ?_); rintro r w2 ⟨rfl, hO2⟩; have hS2 := hS1'.keep hO2)) | (go_at_call 37; ((with_reducible refine (peek1 hS2 HX.out hz hji).mono ?_); rintro r w3 ⟨rfl, hO3⟩; have hS3 := hS2.keep hO3)) | (go_at_call 88; refine (isSourceByte_any _ _).mono ?_; rw [HG.out]; rintro r w5 ⟨rfl, rfl⟩) | (go_at_call 39; refine (skip1 hS3 hz hjl).mono ?_; rintro r w7 ⟨rfl, hS7, hO7⟩))
                go_roundg k'
                case rel => exact ⟨j + 1, d, HP, rfl, by omega, by omega, by omega, by omega, hS7, (((hO1.trans hO1'.lift).trans hO2.lift).trans hO3.lift).trans hO7⟩
                case measure => omega
          · have e1 : (y == 123) = false := by simp [k1]
            have e2 : (y == 45) = false := by simp [k2]
            clear k1 k2
            cases hg : gd y
            · have HP : Hid (comR s i = .bad (flt s 5 nil8 j)) := Lib.hid (by rw [← HI1.out, if_pos hg])
              have HG := Lib.hid hg
              clear hg
              go_wp2_with (first | (go_at_call 38; refine (ended_no hS1 hjl).mono ?_; rintro r w1 ⟨rfl, hO1'⟩; have hS1' := hS1.keep hO1') | (go_at_call 37; ((with_reducible refine (peek0 hS1' HY.out hz hji).mono ?_); rintro r w2 ⟨rfl, hO2⟩; have hS2 := hS1'.keep hO2)) | (go_at_call 88; refine (isSourceByte_any _ _).mono ?_; rw [HG.out]; rintro r w5 ⟨rfl, rfl⟩) | (go_at_call 46; refine (failHere_p hS2).mono ?_; rintro r w7 ⟨rfl, hB7, hO7⟩))
              go_ret
              exact sk_bad HP.out rfl hB7 (((hO1.trans hO1'.lift).trans hO2.lift).trans hO7)
            · have HI0 := HI1
              have HI1 : Hid ((if d = 0 then RR.ok () (j + 1) else comF s i k' (j + 1) d) = comR s i) := Lib.hid (by have h := HI0.out; rw [if_neg (show ¬ (gd y = false) from by rw [hg]; decide)] at h; exact h)
              have HG := Lib.hid hg
              clear hg HI0
              by_cases hd : d = 0
              · have HP : Hid (comR s i = .ok () (j + 1)) := Lib.hid (by rw [← HI1.out, if_pos hd])
                have ed : (d == 0) = true := by simp [hd]
                clear hd
                go_wp2_with (first | (go_at_call 38; refine (ended_no hS1 hjl).mono ?_; rintro r w1 ⟨rfl, hO1'⟩; have hS1' := hS1.keep hO1') | (go_at_call 37; ((with_reducible refine (peek0 hS1' HY.out hz hji).mono ?_); rintro r w2 ⟨rfl, hO2⟩; have hS2 := hS1'.keep hO2)) | (go_at_call 88; refine (isSourceByte_any _ _).mono ?_; rw [HG.out]; rintro r w5 ⟨rfl, rfl⟩) | (go_at_call 39; refine (skip1 hS2 hz hjl).mono ?_; rintro r w7 ⟨rfl, hS7, hO7⟩))
                go_ret
                exact sk_ok HP.out rfl hS7 (((hO1.trans hO1'.lift).trans hO2.lift).trans hO7)
              · have HP : Hid (comF s i k' (j + 1) (d) = comR s i) := Lib.hid (by rw [← HI1.out, if_neg hd])
                have ed : (d == 0) = false := by simp [hd]
                clear hd
                go_wp2_with (first | (go_at_call 38; refine (ended_no hS1 hjl).mono ?_; rintro r w1 ⟨rfl, hO1'⟩; have hS1' := hS1.keep hO1') | (go_at_call 37; ((with_reducible refine (peek0 hS1' HY.out hz hji).mono ?_); rintro r w2 ⟨rfl, hO2⟩; have hS2 := hS1'.keep hO2)) | (go_at_call 88; refine (isSourceByte_any _ _).mono ?_; rw [HG.out]; rintro r w5 ⟨rfl, rfl⟩) | (go_at_call 39; refine (skip1 hS2 hz hjl).mono ?_; rintro r w7 ⟨rfl, hS7, hO7⟩))
                go_roundg k'
                case rel => exact ⟨j + 1, d, HP, rfl, by omega, by omega, by omega, by omega, hS7, ((hO1.trans hO1'.lift).trans hO2.lift).trans hO7⟩
                case measure => omega
    · have hje : j = s.size := by omega
      have HP : Hid (comR s i = .bad (flt s 8 nil8 i)) := Lib.hid (by
        have h := HI.out
        cases gk with
        | zero => exact h.symm
        | succ k' => unfold comF at h; rw [if_neg hjl] at h; exact h.symm)
      clear hjl
      have HJ := Lib.hid hje
      clear hje hy hx HI
      go_wp2_with (first | (go_at_call 38; refine (ended_yes hS1 HJ.out).mono ?_; rintro r w1 ⟨rfl, hO1'⟩; have hS1' := hS1.keep hO1') | (go_at_call 89; refine (fail_p hS1' 8 _).mono ?_; rintro r w7 ⟨rfl, hB7, hO7⟩))
      go_ret
      exact sk_bad HP.out rfl hB7 ((hO1.trans hO1'.lift).trans hO7)
end
end Go.Proofs.YtakojceggpljoaaGreatDoor
