/-
  WALKS. The reference's lexer: comment; word.
-/
import Derived.Test.YtelichlplblboaaGreatDoorRl5
namespace Go.Proofs.YtelichlplblboaaGreatDoor
open Go.RowKit Go.Maps
set_option maxRecDepth 100000 in
set_option maxHeartbeats 4000000 in
theorem rcomment_p (s : ByteArray) (i : Nat) (w : World) (hz : s.size ≤ 1000000) (hi : i ≤ s.size) :
    Calls Tryz.prog 56 #[.string s, .int .i64 i] w fun e w' => VPost s (comR s i) e ∧ Only (fun _ => False) w w' := by
  obtain ⟨R, hR⟩ : ∃ R, comR s i = R := ⟨_, rfl⟩
  rw [hR]
  have HR0 : Hid (comF s i (s.size - i) i 0 = R) := Lib.hid hR
  clear hR
  go_enter Tryz.func56, Tryz.ntmps56
  go_wp2
  go_loopw [5, 6] (fun dv v wr => ∃ (k j : Nat) (d : Int), s.size ≤ j + k ∧ i ≤ j ∧ j ≤ s.size ∧ v = .int .i64 j ∧ dv = .int .i64 d ∧ -(j : Int) ≤ d ∧ d ≤ (j : Int) ∧ Hid (comF s i k j d = R) ∧ wr = uZ w) (fun _ v _ => s.size - (intOf v).toNat)
  case atStart => exact ⟨s.size - i, i, 0, by omega, by omega, hi, rfl, rfl, by omega, by omega, HR0, rfl⟩
  case round =>
    obtain ⟨k, j, d, hk, hij, hj, rfl, rfl, hd0, hd1, HF, rfl⟩ := hrel
    by_cases hlt : j < s.size
    · obtain ⟨k, rfl⟩ : ∃ m, k = m + 1 := ⟨k - 1, by omega⟩
      obtain ⟨y, hy⟩ : ∃ y, byteAt s j = y := ⟨_, rfl⟩
      have hSy : (((s[j]'hlt).toNat : Nat) : Int) = y := by rw [← byteAt_lt hlt]; exact hy
      obtain ⟨x, hx⟩ : ∃ x, byteAt s (j + 1) = x := ⟨_, rfl⟩
      have HFF : Hid ((if y = 123 ∧ x = 45 then (if d + 1 = 0 then RR.ok () (j + 2) else comF s i k (j + 2) (d + 1)) else if y = 45 ∧ x = 125 then (if d - 1 = 0 then RR.ok () (j + 2) else comF s i k (j + 2) (d - 1)) else if gd y = false then RR.bad (flt s 5 nil8 j) else (if d = 0 then RR.ok () (j + 1) else comF s i k (j + 1) d)) = R) := Lib.hid (by
        rw [← HF.out]; conv => rhs; unfold comF; rw [if_pos hlt, hy, hx])
      have hx2 : ∀ h : j + 1 < s.size, (((s[j + 1]'h).toNat : Nat) : Int) = x := fun h => by rw [← byteAt_lt h]; exact hx
      have hx3 : ¬ j + 1 < s.size → x = 0 := fun h => by rw [← hx]; exact byteAt_ge (by omega)
      clear hx hy
      cases hg : gd y
      · have n1 : y ≠ 123 := by intro h; rw [h] at hg; revert hg; decide
        have n2 : y ≠ 45 := by intro h; rw [h] at hg; revert hg; decide
        have HRE : Hid (R = .bad (flt s 5 nil8 j)) := Lib.hid (by rw [← HFF.out, if_neg (fun h => n1 h.1), if_neg (fun h => n2 h.1), if_pos hg])
        have HG := Lib.hid hg
        clear hg hx2 hx3
        go_wp2_with (go_loud (first | (go_at_call 95; ((with_reducible refine (rl_good _ _).mono ?_); rw [HG.out]; rintro e w' ⟨rfl, rfl⟩)) | (go_at_call 70; ((with_reducible refine (rbad_p _ _ _ _).mono ?_); rintro e w1 ⟨rfl, hO1⟩; have hU1 := (UX.new w 0 ⟨#[]⟩ ⟨#[]⟩ 0 0 0 0 ⟨#[]⟩).keep hO1; obtain ⟨c0, c1, c2, c3, c4, c5, c6, c7, c8, c9, c10⟩ := hU1.cells; have z0 := hU1.fz 0; have z1 := hU1.fz 1; have z2 := hU1.fz 2; have z3 := hU1.fz 3; have z4 := hU1.fz 4; have z5 := hU1.fz 5; have z6 := hU1.fz 6; have z7 := hU1.fz 7; have z8 := hU1.fz 8; have z9 := hU1.fz 9; have z10 := hU1.fz 10))))
        rw [HRE.out]
        exact bodyPost_ret (v := uV 0 ⟨#[]⟩ ⟨#[]⟩ 0 0 5 j ⟨#[]⟩) (by simp [results, Tryz.results56, go_sem, c0, c1, c2, c3, c4, c5, c6, c7, c8, c9, c10]) rfl ⟨VPost.bad' rfl (by decide) (by omega), own_set ((uA_only w _ _ _ _ _ _ _ _).trans hO1) (Nat.le_refl _) _ _ _ _ _ _ _ _ _ _ _⟩
      have HG := Lib.hid hg
      by_cases ha : y = 123 ∧ x = 45
      · obtain ⟨rfl, rfl⟩ := ha
        have hl2 : j + 1 < s.size := by
          by_cases h : j + 1 < s.size
          · exact h
          · have := hx3 h; omega
        have hSx := hx2 hl2
        have HN : Hid ((if d + 1 = 0 then RR.ok () (j + 2) else comF s i k (j + 2) (d + 1)) = R) := Lib.hid (by rw [← HFF.out]; rfl)
        clear hg hx2 hx3
        by_cases hd : d + 1 = 0
        · have HRE : Hid (R = .ok () (j + 2)) := Lib.hid (by rw [← HN.out, if_pos hd])
          have ed : (d + 1 == 0) = true := by simpa using hd
          go_wp2_with (go_loud (first | (go_at_call 95; ((with_reducible refine (rl_good _ _).mono ?_); rw [HG.out]; rintro e w' ⟨rfl, rfl⟩))))
          rw [HRE.out]
          exact bodyPost_ret (v := uV 0 ⟨#[]⟩ ⟨#[]⟩ 0 (j + 2 : Nat) 0 0 ⟨#[]⟩) (by simp [results, Tryz.results56, go_sem, ]) rfl ⟨rfl, uA_only w _ _ _ _ _ _ _ _⟩
        · have HRE : Hid (comF s i k (j + 2) (d + 1) = R) := Lib.hid (by rw [← HN.out, if_neg hd])
          have ed : (d + 1 == 0) = false := by simpa using hd
          go_wp2_with (go_loud (first | (go_at_call 95; ((with_reducible refine (rl_good _ _).mono ?_); rw [HG.out]; rintro e w' ⟨rfl, rfl⟩))))
          go_roundw
          case rel => exact ⟨k, j + 2, d + 1, by omega, by omega, by omega, by go_num, by go_num, by omega, by omega, HRE, trivial⟩
          case measure => simp [intOf]; omega
      by_cases hb : y = 45 ∧ x = 125
      · obtain ⟨rfl, rfl⟩ := hb
        have hl2 : j + 1 < s.size := by
          by_cases h : j + 1 < s.size
          · exact h
          · have := hx3 h; omega
        have hSx := hx2 hl2
        have HN : Hid ((if d - 1 = 0 then RR.ok () (j + 2) else comF s i k (j + 2) (d - 1)) = R) := Lib.hid (by rw [← HFF.out]; rfl)
        clear hg hx2 hx3 ha
        by_cases hd : d - 1 = 0
        · have HRE : Hid (R = .ok () (j + 2)) := Lib.hid (by rw [← HN.out, if_pos hd])
          have ed : (d - 1 == 0) = true := by simpa using hd
          go_wp2_with (go_loud (first | (go_at_call 95; ((with_reducible refine (rl_good _ _).mono ?_); rw [HG.out]; rintro e w' ⟨rfl, rfl⟩))))
          rw [HRE.out]
          exact bodyPost_ret (v := uV 0 ⟨#[]⟩ ⟨#[]⟩ 0 (j + 2 : Nat) 0 0 ⟨#[]⟩) (by simp [results, Tryz.results56, go_sem, ]) rfl ⟨rfl, uA_only w _ _ _ _ _ _ _ _⟩
        · have HRE : Hid (comF s i k (j + 2) (d - 1) = R) := Lib.hid (by rw [← HN.out, if_neg hd])
          have ed : (d - 1 == 0) = false := by simpa using hd
          go_wp2_with (go_loud (first | (go_at_call 95; ((with_reducible refine (rl_good _ _).mono ?_); rw [HG.out]; rintro e w' ⟨rfl, rfl⟩))))
          go_roundw
          case rel => exact ⟨k, j + 2, d - 1, by omega, by omega, by omega, by go_num, by go_num, by omega, by omega, HRE, trivial⟩
          case measure => simp [intOf]; omega
      have HN : Hid ((if d = 0 then RR.ok () (j + 1) else comF s i k (j + 1) d) = R) := Lib.hid (by rw [← HFF.out, if_neg ha, if_neg hb, hg, if_neg (show ¬ (true = false) by decide)])
      by_cases n1 : y = 123
      · have e1 : (y == 123) = true := by simp [n1]
        have e2 : (y == 45) = false := by simp [n1]
        by_cases hl2 : j + 1 < s.size
        · have hSx := hx2 hl2
          have e3 : (x == 45) = false := by simp; intro h; exact ha ⟨n1, h⟩
          clear hg hx2 hx3 ha hb n1
          by_cases hd : d = 0
          · have HRE : Hid (R = .ok () (j + 1)) := Lib.hid (by rw [← HN.out, if_pos hd])
            have ed : (d == 0) = true := by simpa using hd
            go_wp2_with (go_loud (first | (go_at_call 95; ((with_reducible refine (rl_good _ _).mono ?_); rw [HG.out]; rintro e w' ⟨rfl, rfl⟩))))
            rw [HRE.out]
            exact bodyPost_ret (v := uV 0 ⟨#[]⟩ ⟨#[]⟩ 0 (j + 1 : Nat) 0 0 ⟨#[]⟩) (by simp [results, Tryz.results56, go_sem, ]) rfl ⟨rfl, uA_only w _ _ _ _ _ _ _ _⟩
          · have HRE : Hid (comF s i k (j + 1) (d) = R) := Lib.hid (by rw [← HN.out, if_neg hd])
            have ed : (d == 0) = false := by simpa using hd
            go_wp2_with (go_loud (first | (go_at_call 95; ((with_reducible refine (rl_good _ _).mono ?_); rw [HG.out]; rintro e w' ⟨rfl, rfl⟩))))
            go_roundw
            case rel => exact ⟨k, j + 1, d, by omega, by omega, by omega, by go_num, by go_num, by omega, by omega, HRE, trivial⟩
            case measure => simp [intOf]; omega
        · have hl3 : s.size ≤ j + 1 := by omega
          clear hg hx2 hx3 ha hb n1
          by_cases hd : d = 0
          · have HRE : Hid (R = .ok () (j + 1)) := Lib.hid (by rw [← HN.out, if_pos hd])
            have ed : (d == 0) = true := by simpa using hd
            go_wp2_with (go_loud (first | (go_at_call 95; ((with_reducible refine (rl_good _ _).mono ?_); rw [HG.out]; rintro e w' ⟨rfl, rfl⟩))))
            rw [HRE.out]
            exact bodyPost_ret (v := uV 0 ⟨#[]⟩ ⟨#[]⟩ 0 (j + 1 : Nat) 0 0 ⟨#[]⟩) (by simp [results, Tryz.results56, go_sem, ]) rfl ⟨rfl, uA_only w _ _ _ _ _ _ _ _⟩
          · have HRE : Hid (comF s i k (j + 1) (d) = R) := Lib.hid (by rw [← HN.out, if_neg hd])
            have ed : (d == 0) = false := by simpa using hd
            go_wp2_with (go_loud (first | (go_at_call 95; ((with_reducible refine (rl_good _ _).mono ?_); rw [HG.out]; rintro e w' ⟨rfl, rfl⟩))))
            go_roundw
            case rel => exact ⟨k, j + 1, d, by omega, by omega, by omega, by go_num, by go_num, by omega, by omega, HRE, trivial⟩
            case measure => simp [intOf]; omega
      have e1 : (y == 123) = false := by simpa using n1
      by_cases n2 : y = 45
      · have e2 : (y == 45) = true := by simp [n2]
        by_cases hl2 : j + 1 < s.size
        · have hSx := hx2 hl2
          have e3 : (x == 125) = false := by simp; intro h; exact hb ⟨n2, h⟩
          clear hg hx2 hx3 ha hb n1 n2
          by_cases hd : d = 0
          · have HRE : Hid (R = .ok () (j + 1)) := Lib.hid (by rw [← HN.out, if_pos hd])
            have ed : (d == 0) = true := by simpa using hd
            go_wp2_with (go_loud (first | (go_at_call 95; ((with_reducible refine (rl_good _ _).mono ?_); rw [HG.out]; rintro e w' ⟨rfl, rfl⟩))))
            rw [HRE.out]
            exact bodyPost_ret (v := uV 0 ⟨#[]⟩ ⟨#[]⟩ 0 (j + 1 : Nat) 0 0 ⟨#[]⟩) (by simp [results, Tryz.results56, go_sem, ]) rfl ⟨rfl, uA_only w _ _ _ _ _ _ _ _⟩
          · have HRE : Hid (comF s i k (j + 1) (d) = R) := Lib.hid (by rw [← HN.out, if_neg hd])
            have ed : (d == 0) = false := by simpa using hd
            go_wp2_with (go_loud (first | (go_at_call 95; ((with_reducible refine (rl_good _ _).mono ?_); rw [HG.out]; rintro e w' ⟨rfl, rfl⟩))))
            go_roundw
            case rel => exact ⟨k, j + 1, d, by omega, by omega, by omega, by go_num, by go_num, by omega, by omega, HRE, trivial⟩
            case measure => simp [intOf]; omega
        · have hl3 : s.size ≤ j + 1 := by omega
          clear hg hx2 hx3 ha hb n1 n2
          by_cases hd : d = 0
          · have HRE : Hid (R = .ok () (j + 1)) := Lib.hid (by rw [← HN.out, if_pos hd])
            have ed : (d == 0) = true := by simpa using hd
            go_wp2_with (go_loud (first | (go_at_call 95; ((with_reducible refine (rl_good _ _).mono ?_); rw [HG.out]; rintro e w' ⟨rfl, rfl⟩))))
            rw [HRE.out]
            exact bodyPost_ret (v := uV 0 ⟨#[]⟩ ⟨#[]⟩ 0 (j + 1 : Nat) 0 0 ⟨#[]⟩) (by simp [results, Tryz.results56, go_sem, ]) rfl ⟨rfl, uA_only w _ _ _ _ _ _ _ _⟩
          · have HRE : Hid (comF s i k (j + 1) (d) = R) := Lib.hid (by rw [← HN.out, if_neg hd])
            have ed : (d == 0) = false := by simpa using hd
            go_wp2_with (go_loud (first | (go_at_call 95; ((with_reducible refine (rl_good _ _).mono ?_); rw [HG.out]; rintro e w' ⟨rfl, rfl⟩))))
            go_roundw
            case rel => exact ⟨k, j + 1, d, by omega, by omega, by omega, by go_num, by go_num, by omega, by omega, HRE, trivial⟩
            case measure => simp [intOf]; omega
      have e2 : (y == 45) = false := by simpa using n2
      clear hg hx2 hx3 ha hb n1 n2
      by_cases hd : d = 0
      · have HRE : Hid (R = .ok () (j + 1)) := Lib.hid (by rw [← HN.out, if_pos hd])
        have ed : (d == 0) = true := by simpa using hd
        go_wp2_with (go_loud (first | (go_at_call 95; ((with_reducible refine (rl_good _ _).mono ?_); rw [HG.out]; rintro e w' ⟨rfl, rfl⟩))))
        rw [HRE.out]
        exact bodyPost_ret (v := uV 0 ⟨#[]⟩ ⟨#[]⟩ 0 (j + 1 : Nat) 0 0 ⟨#[]⟩) (by simp [results, Tryz.results56, go_sem, ]) rfl ⟨rfl, uA_only w _ _ _ _ _ _ _ _⟩
      · have HRE : Hid (comF s i k (j + 1) (d) = R) := Lib.hid (by rw [← HN.out, if_neg hd])
        have ed : (d == 0) = false := by simpa using hd
        go_wp2_with (go_loud (first | (go_at_call 95; ((with_reducible refine (rl_good _ _).mono ?_); rw [HG.out]; rintro e w' ⟨rfl, rfl⟩))))
        go_roundw
        case rel => exact ⟨k, j + 1, d, by omega, by omega, by omega, by go_num, by go_num, by omega, by omega, HRE, trivial⟩
        case measure => simp [intOf]; omega
    · have HRE : Hid (R = .bad (flt s 8 nil8 i)) := Lib.hid (by
        rw [← HF.out]
        cases k with
        | zero => rfl
        | succ k => unfold comF; rw [if_neg hlt])
      have hle : s.size ≤ j := by omega
      go_wp2_with (go_loud (first | (go_at_call 70; ((with_reducible refine (rbad_p _ _ _ _).mono ?_); rintro e w1 ⟨rfl, hO1⟩; have hU1 := (UX.new w 0 ⟨#[]⟩ ⟨#[]⟩ 0 0 0 0 ⟨#[]⟩).keep hO1; obtain ⟨c0, c1, c2, c3, c4, c5, c6, c7, c8, c9, c10⟩ := hU1.cells; have z0 := hU1.fz 0; have z1 := hU1.fz 1; have z2 := hU1.fz 2; have z3 := hU1.fz 3; have z4 := hU1.fz 4; have z5 := hU1.fz 5; have z6 := hU1.fz 6; have z7 := hU1.fz 7; have z8 := hU1.fz 8; have z9 := hU1.fz 9; have z10 := hU1.fz 10))))
      rw [HRE.out]
      exact bodyPost_ret (v := uV 0 ⟨#[]⟩ ⟨#[]⟩ 0 0 8 i ⟨#[]⟩) (by simp [results, Tryz.results56, go_sem, c0, c1, c2, c3, c4, c5, c6, c7, c8, c9, c10]) rfl ⟨VPost.bad' rfl (by decide) hi, own_set ((uA_only w _ _ _ _ _ _ _ _).trans hO1) (Nat.le_refl _) _ _ _ _ _ _ _ _ _ _ _⟩
end Go.Proofs.YtelichlplblboaaGreatDoor
