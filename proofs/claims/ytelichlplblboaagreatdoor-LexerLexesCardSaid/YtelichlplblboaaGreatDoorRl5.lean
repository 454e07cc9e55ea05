/-
  WALKS. The reference's lexer: number, comment, rest.
-/
import Derived.Test.YtelichlplblboaaGreatDoorRl2
namespace Go.Proofs.YtelichlplblboaaGreatDoor
open Go.RowKit Go.Maps
/-- What a part of a unit answers: no token, and where it ends; or a fault. -/
def VPost (s : ByteArray) (o : RR Unit) (e : Ending) : Prop := match o with
  | .ok _ j => e = .returned (uV 0 ⟨#[]⟩ ⟨#[]⟩ 0 j 0 0 ⟨#[]⟩)
  | .bad g => ∃ (code : Int) (a : Nat), e = .returned (uV 0 ⟨#[]⟩ ⟨#[]⟩ 0 0 code a ⟨#[]⟩) ∧ g = flt s code nil8 a ∧ code ≠ 0 ∧ a ≤ s.size
/-- What a part of a unit answers: a token, and where it ends; or a fault. -/
def TPost (s : ByteArray) (o : RR Tk) (e : Ending) : Prop := match o with
  | .ok t j => e = .returned (uV t.op t.qual t.text t.n j 0 0 ⟨#[]⟩)
  | .bad g => ∃ (code : Int) (a : Nat) (nm : ByteArray), e = .returned (uV 0 ⟨#[]⟩ ⟨#[]⟩ 0 0 code a nm) ∧ g = flt s code nm a ∧ code ≠ 0 ∧ a ≤ s.size
theorem VPost.bad' {s : ByteArray} {e : Ending} {code : Int} {a : Nat} (h : e = .returned (uV 0 ⟨#[]⟩ ⟨#[]⟩ 0 0 code a ⟨#[]⟩)) (h0 : code ≠ 0) (ha : a ≤ s.size) : VPost s (.bad (flt s code nil8 a)) e := ⟨_, _, h, rfl, h0, ha⟩
theorem TPost.bad' {s : ByteArray} {e : Ending} {code : Int} {a : Nat} {nm : ByteArray} (h : e = .returned (uV 0 ⟨#[]⟩ ⟨#[]⟩ 0 0 code a nm)) (h0 : code ≠ 0) (ha : a ≤ s.size) : TPost s (.bad (flt s code nm a)) e := ⟨_, _, _, h, rfl, h0, ha⟩
set_option maxRecDepth 100000 in
set_option maxHeartbeats 2000000 in
theorem rrest_p (s : ByteArray) (i : Nat) (w : World) (hz : s.size ≤ 1000000) (hi : i ≤ s.size) :
    Calls Tryz.prog 63 #[.string s, .int .i64 i] w fun e w' => VPost s (linR s i) e ∧ Only (fun _ => False) w w' := by
  obtain ⟨R, hR⟩ : ∃ R, linR s i = R := ⟨_, rfl⟩
  rw [hR]
  have HR0 : Hid (linF s (s.size - i) i = R) := Lib.hid hR
  clear hR
  go_enter Tryz.func63, Tryz.ntmps63
  go_wp2
  go_loopw [1] (fun v wr => ∃ (k j : Nat), j + k = s.size ∧ v = .int .i64 j ∧ Hid (linF s k j = R) ∧ wr = uZ w) (fun v _ => s.size - (intOf v).toNat)
  case atStart => exact ⟨s.size - i, i, by omega, rfl, HR0, rfl⟩
  case round =>
    obtain ⟨k, j, hj, rfl, HF, rfl⟩ := hrel
    cases k with
    | zero =>
      have HRE : Hid (R = .ok () j) := Lib.hid (by rw [← HF.out]; rfl)
      have hle : s.size ≤ j := by omega
      go_wp2
      rw [HRE.out]
      exact bodyPost_ret (v := uV 0 ⟨#[]⟩ ⟨#[]⟩ 0 j 0 0 ⟨#[]⟩) (by simp [results, Tryz.results63, go_sem, ]) rfl ⟨rfl, uA_only w _ _ _ _ _ _ _ _⟩
    | succ k =>
      have hlt : j < s.size := by omega
      obtain ⟨y, hy⟩ : ∃ y, byteAt s j = y := ⟨_, rfl⟩
      have hSy : (((s[j]'hlt).toNat : Nat) : Int) = y := by rw [← byteAt_lt hlt]; exact hy
      by_cases h10 : y = 10
      · have e10 : (y != 10) = false := by simp [h10]
        have HRE : Hid (R = .ok () j) := Lib.hid (by rw [← HF.out]; unfold linF; rw [hy, if_pos h10])
        clear hy h10
        go_wp2
        rw [HRE.out]
        exact bodyPost_ret (v := uV 0 ⟨#[]⟩ ⟨#[]⟩ 0 j 0 0 ⟨#[]⟩) (by simp [results, Tryz.results63, go_sem, ]) rfl ⟨rfl, uA_only w _ _ _ _ _ _ _ _⟩
      · have e10 : (y != 10) = true := by simpa using h10
        cases hg : gd y
        · have HG := Lib.hid hg
          have HRE : Hid (R = .bad (flt s 5 nil8 j)) := Lib.hid (by rw [← HF.out]; unfold linF; rw [hy, if_neg h10, hg, if_pos rfl])
          clear hy h10 hg
          go_wp2_with (go_loud (first | (go_at_call 95; ((with_reducible refine (rl_good _ _).mono ?_); rw [HG.out]; rintro e w' ⟨rfl, rfl⟩)) | (go_at_call 70; ((with_reducible refine (rbad_p _ _ _ _).mono ?_); rintro e w1 ⟨rfl, hO1⟩; have hU1 := (UX.new w 0 ⟨#[]⟩ ⟨#[]⟩ 0 0 0 0 ⟨#[]⟩).keep hO1; obtain ⟨c0, c1, c2, c3, c4, c5, c6, c7, c8, c9, c10⟩ := hU1.cells; have z0 := hU1.fz 0; have z1 := hU1.fz 1; have z2 := hU1.fz 2; have z3 := hU1.fz 3; have z4 := hU1.fz 4; have z5 := hU1.fz 5; have z6 := hU1.fz 6; have z7 := hU1.fz 7; have z8 := hU1.fz 8; have z9 := hU1.fz 9; have z10 := hU1.fz 10))))
          rw [HRE.out]
          exact bodyPost_ret (v := uV 0 ⟨#[]⟩ ⟨#[]⟩ 0 0 5 j ⟨#[]⟩) (by simp [results, Tryz.results63, go_sem, c0, c1, c2, c3, c4, c5, c6, c7, c8, c9, c10]) rfl ⟨VPost.bad' rfl (by decide) (by omega), own_set ((uA_only w _ _ _ _ _ _ _ _).trans hO1) (Nat.le_refl _) _ _ _ _ _ _ _ _ _ _ _⟩
        · have HG := Lib.hid hg
          have HF' : Hid (linF s k (j + 1) = R) := Lib.hid (by rw [← HF.out]; conv => rhs; unfold linF; rw [hy, if_neg h10, hg, if_neg (by decide)])
          clear hy h10 hg
          go_wp2_with (go_loud (first | (go_at_call 95; ((with_reducible refine (rl_good _ _).mono ?_); rw [HG.out]; rintro e w' ⟨rfl, rfl⟩))))
          go_roundw
          case rel => exact ⟨k, j + 1, by omega, by go_num, HF', trivial⟩
          case measure => simp [intOf]; omega
theorem intF_end (s : ByteArray) (i0 k j : Nat) (n : Int) (h : s.size ≤ j) : intF s i0 k j n = .ok ⟨5, nil8, nil8, n⟩ j := by
  cases k with
  | zero => rfl
  | succ k => unfold intF; rw [byteAt_ge h]; rfl
set_option maxRecDepth 100000 in
set_option maxHeartbeats 4000000 in
theorem rnumber_p2 (s : ByteArray) (i : Nat) (w : World) (hz : s.size ≤ 1000000) (hi : i ≤ s.size) :
    Calls Tryz.prog 66 #[.string s, .int .i64 i] w fun e w' => TPost s (intR s i) e ∧ Only (fun _ => False) w w' := by
  obtain ⟨R, hR⟩ : ∃ R, intR s i = R := ⟨_, rfl⟩
  rw [hR]
  have HR0 : Hid (intF s i (s.size - i) i 0 = R) := Lib.hid hR
  clear hR
  go_enter Tryz.func66, Tryz.ntmps66
  go_wp2
  go_loopw [5, 6, 7] (fun nv v gv wr => ∃ (k j : Nat) (n : Int) (b : Bool), j + k = s.size ∧ v = .int .i64 j ∧ nv = .int .i64 n ∧ gv = .bool b ∧ Hid (if b then R = .bad (flt s 6 nil8 i) else intF s i k j n = R) ∧ 0 ≤ n ∧ n ≤ 9223372036854775807 ∧ wr = uZ w) (fun _ v _ _ => s.size - (intOf v).toNat)
  case atStart => exact ⟨s.size - i, i, 0, false, by omega, rfl, rfl, rfl, Lib.hid (by rw [if_neg (by decide)]; exact HR0.out), by omega, by omega, rfl⟩
  case round =>
    obtain ⟨k, j, n, b, hj, rfl, rfl, rfl, HF, hn0, hn1, rfl⟩ := hrel
    have fin : (j < s.size → dg (byteAt s j) = false) → (b = true → R = .bad (flt s 6 nil8 i)) ∧ (b = false → R = .ok ⟨5, nil8, nil8, n⟩ j) := by
      intro hst
      refine ⟨fun hb => ?_, fun hb => ?_⟩
      · have h := HF.out; rw [hb] at h; exact h
      · have h := HF.out
        rw [hb, if_neg (by decide)] at h
        rw [← h]
        by_cases hl : j < s.size
        · cases k with
          | zero => rfl
          | succ k => unfold intF; rw [hst hl]; rfl
        · exact intF_end s i k j n (by omega)
    by_cases hlt : j < s.size
    · obtain ⟨y, hy⟩ : ∃ y, byteAt s j = y := ⟨_, rfl⟩
      have hSy : (((s[j]'hlt).toNat : Nat) : Int) = y := by rw [← byteAt_lt hlt]; exact hy
      cases hd : dg y
      · have HD := Lib.hid hd
        have HFF := Lib.hid (fin (by rw [hy]; exact fun _ => hd))
        clear hy hd fin
        cases b
        · have HRE : Hid (R = .ok ⟨5, nil8, nil8, n⟩ j) := Lib.hid (HFF.out.2 rfl)
          go_wp2_with (go_loud (first | (go_at_call 65; ((with_reducible refine (rl_digit _ _).mono ?_); rw [HD.out]; rintro e w' ⟨rfl, rfl⟩))))
          rw [HRE.out]
          exact bodyPost_ret (v := uV 5 ⟨#[]⟩ ⟨#[]⟩ n j 0 0 ⟨#[]⟩) (by simp [results, Tryz.results66, go_sem, ]) rfl ⟨rfl, uA_only w _ _ _ _ _ _ _ _⟩
        · have HRE : Hid (R = .bad (flt s 6 nil8 i)) := Lib.hid (HFF.out.1 rfl)
          go_wp2_with (go_loud (first | (go_at_call 65; ((with_reducible refine (rl_digit _ _).mono ?_); rw [HD.out]; rintro e w' ⟨rfl, rfl⟩)) | (go_at_call 70; ((with_reducible refine (rbad_p _ _ _ _).mono ?_); rintro e w1 ⟨rfl, hO1⟩; have hU1 := (UX.new w 0 ⟨#[]⟩ ⟨#[]⟩ 0 0 0 0 ⟨#[]⟩).keep hO1; obtain ⟨c0, c1, c2, c3, c4, c5, c6, c7, c8, c9, c10⟩ := hU1.cells; have z0 := hU1.fz 0; have z1 := hU1.fz 1; have z2 := hU1.fz 2; have z3 := hU1.fz 3; have z4 := hU1.fz 4; have z5 := hU1.fz 5; have z6 := hU1.fz 6; have z7 := hU1.fz 7; have z8 := hU1.fz 8; have z9 := hU1.fz 9; have z10 := hU1.fz 10))))
          rw [HRE.out]
          exact bodyPost_ret (v := uV 0 ⟨#[]⟩ ⟨#[]⟩ 0 0 6 i ⟨#[]⟩) (by simp [results, Tryz.results66, go_sem, c0, c1, c2, c3, c4, c5, c6, c7, c8, c9, c10]) rfl ⟨TPost.bad' rfl (by decide) (by omega), own_set ((uA_only w _ _ _ _ _ _ _ _).trans hO1) (Nat.le_refl _) _ _ _ _ _ _ _ _ _ _ _⟩
      · have HD := Lib.hid hd
        obtain ⟨k, rfl⟩ : ∃ m, k = m + 1 := ⟨k - 1, by omega⟩
        have hyb := dg_bd hd
        obtain ⟨hyb0, hyb1⟩ := hyb
        have HF2 := HF.out
        have HB : Hid (∀ n', (9223372036854775807 - (y - 48)) / 10 < n → (if true then R = .bad (flt s 6 nil8 i) else intF s i k (j + 1) n' = R)) := Lib.hid (fun n' hgt => by
          rw [if_pos rfl]
          cases b
          · rw [if_neg (by decide)] at HF2
            unfold intF at HF2
            rw [hy, if_pos hd, if_pos hgt] at HF2
            exact HF2.symm
          · exact HF2)
        have HC : Hid (n ≤ (9223372036854775807 - (y - 48)) / 10 → (if b then R = .bad (flt s 6 nil8 i) else intF s i k (j + 1) (n * 10 + (y - 48)) = R)) := Lib.hid (fun hle => by
          cases b
          · rw [if_neg (by decide)] at HF2 ⊢
            unfold intF at HF2
            rw [hy, if_pos hd, if_neg (by omega)] at HF2
            rw [show n * 10 + (y - 48) = 10 * n + (y - 48) by omega]
            exact HF2
          · exact HF2)
        clear hy hd fin HF2
        by_cases hgt : (9223372036854775807 - (y - 48)) / 10 < n
        · go_wp2_with (go_loud (first | (go_at_call 65; ((with_reducible refine (rl_digit _ _).mono ?_); rw [HD.out]; rintro e w' ⟨rfl, rfl⟩))))
          go_roundw
          case rel => exact ⟨k, j + 1, n, true, by omega, by go_num, rfl, rfl, Lib.hid (HB.out n hgt), hn0, hn1, trivial⟩
          case measure => simp [intOf]; omega
        · have hle : n ≤ (9223372036854775807 - (y - 48)) / 10 := by omega
          have hnx : n * 10 + (y - 48) ≤ 9223372036854775807 := by omega
          go_wp2_with (go_loud (first | (go_at_call 65; ((with_reducible refine (rl_digit _ _).mono ?_); rw [HD.out]; rintro e w' ⟨rfl, rfl⟩))))
          go_roundw
          case rel => exact ⟨k, j + 1, n * 10 + (y - 48), b, by omega, by go_num, by go_num, rfl, Lib.hid (HC.out hle), by omega, by omega, trivial⟩
          case measure => simp [intOf]; omega
    · have HFF := Lib.hid (fin (fun h => absurd h hlt))
      have hle : s.size ≤ j := by omega
      clear fin
      cases b
      · have HRE : Hid (R = .ok ⟨5, nil8, nil8, n⟩ j) := Lib.hid (HFF.out.2 rfl)
        go_wp2
        rw [HRE.out]
        exact bodyPost_ret (v := uV 5 ⟨#[]⟩ ⟨#[]⟩ n j 0 0 ⟨#[]⟩) (by simp [results, Tryz.results66, go_sem, ]) rfl ⟨rfl, uA_only w _ _ _ _ _ _ _ _⟩
      · have HRE : Hid (R = .bad (flt s 6 nil8 i)) := Lib.hid (HFF.out.1 rfl)
        go_wp2_with (go_loud (first | (go_at_call 70; ((with_reducible refine (rbad_p _ _ _ _).mono ?_); rintro e w1 ⟨rfl, hO1⟩; have hU1 := (UX.new w 0 ⟨#[]⟩ ⟨#[]⟩ 0 0 0 0 ⟨#[]⟩).keep hO1; obtain ⟨c0, c1, c2, c3, c4, c5, c6, c7, c8, c9, c10⟩ := hU1.cells; have z0 := hU1.fz 0; have z1 := hU1.fz 1; have z2 := hU1.fz 2; have z3 := hU1.fz 3; have z4 := hU1.fz 4; have z5 := hU1.fz 5; have z6 := hU1.fz 6; have z7 := hU1.fz 7; have z8 := hU1.fz 8; have z9 := hU1.fz 9; have z10 := hU1.fz 10))))
        rw [HRE.out]
        exact bodyPost_ret (v := uV 0 ⟨#[]⟩ ⟨#[]⟩ 0 0 6 i ⟨#[]⟩) (by simp [results, Tryz.results66, go_sem, c0, c1, c2, c3, c4, c5, c6, c7, c8, c9, c10]) rfl ⟨TPost.bad' rfl (by decide) (by omega), own_set ((uA_only w _ _ _ _ _ _ _ _).trans hO1) (Nat.le_refl _) _ _ _ _ _ _ _ _ _ _ _⟩
end Go.Proofs.YtelichlplblboaaGreatDoor
