/-
  WALKS. The reference's lexer: a literal character in hexadecimal; all literal characters.
-/
import Derived.Test.YtelichlplblboaaGreatDoorRl3
namespace Go.Proofs.YtelichlplblboaaGreatDoor
open Go.RowKit Go.Maps
theorem UX.put {w : World} {g : Nat} {op : Int} {q t : ByteArray} {n e code at' : Int} {nm : ByteArray} (h : UX w g op q t n e code at' nm) (op' : Int) (q' t' : ByteArray) (n' e' code' at2 : Int) (nm' : ByteArray) :
    UX (set11 w g (.int .i64 op') (.string q') (.string t') (.int .i64 n') (.bool false) (.int .i64 0) (.int .i64 0) (.int .i64 e') (.int .i64 code') (.int .i64 at2) (.string nm')) g op' q' t' n' e' code' at2 nm' := by
  unfold UX at h ⊢
  simp [World.setCell, Array.getElem?_modify, h]
def hexF (s : ByteArray) (i0 : Nat) : Nat → Nat → Int → RR Int
  | 0, j, v => .ok v j
  | m + 1, j, v => match hexV (byteAt s j) with
    | none => litBad s i0 j
    | some d => hexF s i0 m (j + 1) (v * 16 + d)
theorem hexF_R (s : ByteArray) (i0 j : Nat) : hexF s i0 2 j 0 = hexR s i0 j := by
  unfold hexF hexR
  cases hexV (byteAt s j) with
  | none => rfl
  | some d =>
    simp only
    unfold hexF
    cases hexV (byteAt s (j + 1)) with
    | none => rfl
    | some e =>
      simp only
      unfold hexF
      rw [show (0 * 16 + d) * 16 + e = 16 * d + e by omega]
/-- The bounds of a number in hexadecimal that is being read. -/
def HB (m : Nat) (v : Int) : Prop := (m = 2 ∧ v = 0) ∨ (m = 1 ∧ 0 ≤ v ∧ v ≤ 15) ∨ (m = 0 ∧ 0 ≤ v ∧ v ≤ 255)
set_option maxRecDepth 100000 in
set_option maxHeartbeats 16000000 in
theorem rchar_x (s : ByteArray) (fr i : Nat) (w : World) (hz : s.size ≤ 1000000) (hf : fr ≤ s.size) (h92 : byteAt s i = 92) (h120 : byteAt s (i + 1) = 120) :
    Calls Tryz.prog 99 #[.string s, .int .i64 fr, .int .i64 i] w fun e w' => CPost s (hexR s fr (i + 2)) e ∧ Only (fun _ => False) w w' := by
  have hi : i < s.size := byteAt_pos (by omega)
  have HP : Hid (prn (byteAt s i) = true) := Lib.hid (by rw [h92]; exact prn_92)
  have hSy : (((s[i]'hi).toNat : Nat) : Int) = 92 := by rw [← byteAt_lt hi]; exact h92
  have hi2 : i + 1 < s.size := byteAt_pos (by omega)
  have HP2 : Hid (prn (byteAt s (i + 1)) = true) := Lib.hid (by rw [h120]; decide)
  have hSy2 : (((s[i + 1]'hi2).toNat : Nat) : Int) = 120 := by rw [← byteAt_lt hi2]; exact h120
  obtain ⟨R, hR⟩ : ∃ R, hexR s fr (i + 2) = R := ⟨_, rfl⟩
  rw [hR]
  have HR0 : Hid (hexF s fr 2 (i + 2) 0 = R) := Lib.hid (by rw [hexF_R]; exact hR)
  clear h92 h120 hR
  go_enter Tryz.func99, Tryz.ntmps99
  go_wp2_with (go_loud (first | (go_at_call 98; ((with_reducible refine (rstep_ok s _ i _ hz HP.out).mono ?_); rintro e w1 ⟨rfl, hO1⟩; have hU1 := ((UX.new w 0 ⟨#[]⟩ ⟨#[]⟩ 0 0 0 0 ⟨#[]⟩).keep hO1).keep (uA_only w1 0 ⟨#[]⟩ ⟨#[]⟩ 0 0 0 0 ⟨#[]⟩); have hV1 := UX.new w1 0 ⟨#[]⟩ ⟨#[]⟩ 0 0 0 0 ⟨#[]⟩)) | (go_at_call 98; ((with_reducible refine (rstep_okj s _ (i + 1) _ _ (by omega) hz HP2.out).mono ?_); rintro e w2 ⟨rfl, hO2⟩; have hV2 := hV1.keep hO2; have hU2 := (hU1.keep hO2).only (Only.set11 w2 w1.heap.size (.int .i64 0) (.string ⟨#[]⟩) (.string ⟨#[]⟩) (.int .i64 0) (.bool false) (.int .i64 0) (.int .i64 0) (.int .i64 0) (.int .i64 0) (.int .i64 0) (.string ⟨#[]⟩)) (by have := hO1.size; rw [uA_size] at this; omega); obtain ⟨c0, c1, c2, c3, c4, c5, c6, c7, c8, c9, c10⟩ := hU2.cells; have z0 := hU2.fz 0; have z1 := hU2.fz 1; have z2 := hU2.fz 2; have z3 := hU2.fz 3; have z4 := hU2.fz 4; have z5 := hU2.fz 5; have z6 := hU2.fz 6; have z7 := hU2.fz 7; have z8 := hU2.fz 8; have z9 := hU2.fz 9; have z10 := hU2.fz 10; obtain ⟨d0, d1, d2, d3, d4, d5, d6, d7, d8, d9, d10⟩ := hV2.cells; have y0 := hV2.fz 0; have y1 := hV2.fz 1; have y2 := hV2.fz 2; have y3 := hV2.fz 3; have y4 := hV2.fz 4; have y5 := hV2.fz 5; have y6 := hV2.fz 6; have y7 := hV2.fz 7; have y8 := hV2.fz 8; have y9 := hV2.fz 9; have y10 := hV2.fz 10))))
  have hg := hO1.size
  rw [uA_size] at hg
  obtain ⟨g2, hg2⟩ : ∃ g2, w1.heap.size = g2 := ⟨_, rfl⟩
  have hZ2 := hV2.put 0 ⟨#[]⟩ ⟨#[]⟩ 0 0 0 0 ⟨#[]⟩
  have hO3 := own_set (w := w) (((((uA_only w _ _ _ _ _ _ _ _).trans hO1).trans (uA_only w1 _ _ _ _ _ _ _ _)).trans hO2)) (by omega) (g := w1.heap.size) (.int .i64 0) (.string ⟨#[]⟩) (.string ⟨#[]⟩) (.int .i64 0) (.bool false) (.int .i64 0) (.int .i64 0) (.int .i64 0) (.int .i64 0) (.int .i64 0) (.string ⟨#[]⟩)
  rw [hg2] at hU2 hZ2 hO3 hg ⊢
  clear hU1 hV1 hV2 c0 c1 c2 c3 c4 c5 c6 c7 c8 c9 c10 d0 d1 d2 d3 d4 d5 d6 d7 d8 d9 d10 z0 z1 z2 z3 z4 z5 z6 z7 z8 z9 z10 y0 y1 y2 y3 y4 y5 y6 y7 y8 y9 y10
  go_loopw [8, 9] (fun n k wr => ∃ (m j : Nat) (v : Int), j + m = i + 4 ∧ n = .int .i64 v ∧ k = .int .i64 j ∧ Hid (HB m v) ∧ Hid (hexF s fr m j v = R) ∧ UB wr w.heap.size ∧ UB wr g2 ∧ Only (fun _ => False) w wr) (fun _ k _ => i + 4 - (intOf k).toNat)
  case atStart => exact ⟨2, i + 2, 0, by omega, rfl, by go_num, Lib.hid (.inl ⟨rfl, rfl⟩), HR0, hU2, hZ2, hO3⟩
  case round =>
    obtain ⟨m, j, v, hj, rfl, rfl, HBB, HF, hU, hV, hO⟩ := hrel
    have hbb : 0 ≤ v ∧ v ≤ 255 := by rcases HBB.out with h | h | h <;> omega
    cases m with
    | zero =>
      obtain ⟨c0, c1, c2, c3, c4, c5, c6, c7, c8, c9, c10⟩ := hU.cells; have z0 := hU.fz 0; have z1 := hU.fz 1; have z2 := hU.fz 2; have z3 := hU.fz 3; have z4 := hU.fz 4; have z5 := hU.fz 5; have z6 := hU.fz 6; have z7 := hU.fz 7; have z8 := hU.fz 8; have z9 := hU.fz 9; have z10 := hU.fz 10
      have HRE : Hid (R = .ok v (i + 4)) := Lib.hid (by rw [← HF.out]; unfold hexF; rw [show j = i + 4 by omega])
      have hje : (j : Int) = (i : Int) + 4 := by omega
      clear hj
      go_wp2
      rw [HRE.out]
      exact bodyPost_ret (v := uV 0 ⟨#[]⟩ ⟨#[]⟩ v (i + 4 : Nat) 0 0 ⟨#[]⟩) (by simp [results, Tryz.results99, go_sem, c0, c1, c2, c3, c4, c5, c6, c7, c8, c9, c10]) rfl ⟨rfl, own_set (hO) (Nat.le_refl _) _ _ _ _ _ _ _ _ _ _ _⟩
    | succ m =>
      have hlt : (j : Int) < (i : Int) + 4 := by omega
      have hjb : j ≤ 1000004 := by omega
      cases hp : prn (byteAt s j)
      · have hn : hexV (byteAt s j) = none := by
          cases hx : hexV (byteAt s j) with
          | none => rfl
          | some d => rw [hexV_prn hx] at hp; cases hp
        have HRE : Hid (R = litBad s fr j) := Lib.hid (by rw [← HF.out]; unfold hexF; rw [hn])
        obtain ⟨A, hA⟩ : ∃ A, litA s fr j = A := ⟨_, rfl⟩
        have hne : (A.1 != 0) = true := by have := litA_ne s fr j; rw [hA] at this; simpa using this
        have HS : Hid (∀ w, Calls Tryz.prog 98 #[.string s, .int .i64 fr, .int .i64 j] w fun e w' => e = .returned (uV 0 ⟨#[]⟩ ⟨#[]⟩ 0 0 A.1 A.2 ⟨#[]⟩) ∧ Only (fun _ => False) w w') := Lib.hid (fun w => hA ▸ rstep_bad s fr j w hz (by omega) (by omega) hp)
        have HAA := Lib.hid hA
        obtain ⟨a1, a2⟩ := A
        clear hA hp hn
        go_wp2_with (go_loud (first | (go_at_call 98; ((with_reducible refine (HS.out _).mono ?_); rintro e w3 ⟨rfl, hO4⟩; have hV3 := hV.keep hO4; have hU3 := (hU.keep hO4).only (Only.set11 w3 g2 (.int .i64 0) (.string ⟨#[]⟩) (.string ⟨#[]⟩) (.int .i64 0) (.bool false) (.int .i64 0) (.int .i64 0) (.int .i64 0) (.int .i64 a1) (.int .i64 a2) (.string ⟨#[]⟩)) (by omega); obtain ⟨d0, d1, d2, d3, d4, d5, d6, d7, d8, d9, d10⟩ := hV3.cells; have y0 := hV3.fz 0; have y1 := hV3.fz 1; have y2 := hV3.fz 2; have y3 := hV3.fz 3; have y4 := hV3.fz 4; have y5 := hV3.fz 5; have y6 := hV3.fz 6; have y7 := hV3.fz 7; have y8 := hV3.fz 8; have y9 := hV3.fz 9; have y10 := hV3.fz 10; obtain ⟨e0, e1, e2, e3, e4, e5, e6, e7, e8, e9, e10⟩ := hU3.cells; have x0 := hU3.fz 0; have x1 := hU3.fz 1; have x2 := hU3.fz 2; have x3 := hU3.fz 3; have x4 := hU3.fz 4; have x5 := hU3.fz 5; have x6 := hU3.fz 6; have x7 := hU3.fz 7; have x8 := hU3.fz 8; have x9 := hU3.fz 9; have x10 := hU3.fz 10))))
        rw [HRE.out]
        exact bodyPost_ret (v := uV 0 ⟨#[]⟩ ⟨#[]⟩ 0 0 a1 a2 ⟨#[]⟩) (by simp [results, Tryz.results99, go_sem, e0, e1, e2, e3, e4, e5, e6, e7, e8, e9, e10]) rfl ⟨CPost.lit rfl HAA.out hf, own_set (own_set (hO.trans hO4) (by omega) _ _ _ _ _ _ _ _ _ _ _) (Nat.le_refl _) _ _ _ _ _ _ _ _ _ _ _⟩
      · have hjs : j < s.size := byteAt_pos (by intro h; rw [h, prn_0] at hp; cases hp)
        have HPJ := Lib.hid hp
        have hL := litA_prn (i0 := fr) hp
        obtain ⟨y', hy⟩ : ∃ y, byteAt s j = y := ⟨_, rfl⟩
        have hSj : (((s[j]'hjs).toNat : Nat) : Int) = y' := by rw [← byteAt_lt hjs]; exact hy
        have hyb := byteAt_bd s j
        rw [hy] at hyb
        rcases hexV_I y' with ⟨hv1, hv2⟩ | ⟨d', hv1, hv2, hd0, hd1⟩
        · have HRE : Hid (R = litBad s fr j) := Lib.hid (by rw [← HF.out]; unfold hexF; rw [hy, hv1])
          have HV2 := Lib.hid hv2
          have HL := Lib.hid hL
          clear hp hy hv1 hv2 hL
          go_wp2_with (go_loud (first | (go_at_call 98; ((with_reducible refine (rstep_ok s _ j _ hz HPJ.out).mono ?_); rintro e w3 ⟨rfl, hO4⟩; have hV3 := hV.keep hO4; have hU3 := (hU.keep hO4).only (Only.set11 w3 g2 (.int .i64 0) (.string ⟨#[]⟩) (.string ⟨#[]⟩) (.int .i64 0) (.bool false) (.int .i64 0) (.int .i64 0) (.int .i64 0) (.int .i64 0) (.int .i64 0) (.string ⟨#[]⟩)) (by omega); obtain ⟨d0, d1, d2, d3, d4, d5, d6, d7, d8, d9, d10⟩ := hV3.cells; have y0 := hV3.fz 0; have y1 := hV3.fz 1; have y2 := hV3.fz 2; have y3 := hV3.fz 3; have y4 := hV3.fz 4; have y5 := hV3.fz 5; have y6 := hV3.fz 6; have y7 := hV3.fz 7; have y8 := hV3.fz 8; have y9 := hV3.fz 9; have y10 := hV3.fz 10)) | (go_at_call 119; ((with_reducible refine (rl_hex _ _ _ hyb.1 hyb.2 HV2.out).mono ?_); rintro e w' ⟨rfl, rfl⟩)) | (go_at_call 70; ((with_reducible refine (rbad_p _ _ _ _).mono ?_); rintro e w5 ⟨rfl, hO5⟩; have hU5 := hU3.keep hO5; obtain ⟨b0, b1, b2, b3, b4, b5, b6, b7, b8, b9, b10⟩ := hU5.cells; have a0 := hU5.fz 0; have a1 := hU5.fz 1; have a2 := hU5.fz 2; have a3 := hU5.fz 3; have a4 := hU5.fz 4; have a5 := hU5.fz 5; have a6 := hU5.fz 6; have a7 := hU5.fz 7; have a8 := hU5.fz 8; have a9 := hU5.fz 9; have a10 := hU5.fz 10))))
          rw [HRE.out]
          exact bodyPost_ret (v := uV 0 ⟨#[]⟩ ⟨#[]⟩ 0 0 7 fr ⟨#[]⟩) (by simp [results, Tryz.results99, go_sem, b0, b1, b2, b3, b4, b5, b6, b7, b8, b9, b10]) rfl ⟨CPost.lit (a := (7, fr)) rfl HL.out hf, own_set ((own_set (hO.trans hO4) (by omega) _ _ _ _ _ _ _ _ _ _ _).trans hO5) (Nat.le_refl _) _ _ _ _ _ _ _ _ _ _ _⟩
        · have HF' : Hid (hexF s fr m (j + 1) (v * 16 + d') = R) := Lib.hid (by rw [← HF.out]; conv => rhs; unfold hexF; rw [hy, hv1])
          have HB' : Hid (HB m (v * 16 + d')) := Lib.hid (by unfold HB; rcases HBB.out with ⟨h1, h2⟩ | ⟨h1, h2, h3⟩ | ⟨h1, _⟩ <;> omega)
          have HV2 := Lib.hid hv2
          have hvb : v ≤ 15 := by rcases HBB.out with h | h | h <;> omega
          have hv0 : 0 ≤ v := hbb.1
          have ed0 : decide (d' < 0) = false := by simp; omega
          clear hbb
          clear hp hy hv1 hv2 hL
          go_wp2_with (go_loud (first | (go_at_call 98; ((with_reducible refine (rstep_ok s _ j _ hz HPJ.out).mono ?_); rintro e w3 ⟨rfl, hO4⟩; have hV3 := hV.keep hO4; have hU3 := (hU.keep hO4).only (Only.set11 w3 g2 (.int .i64 0) (.string ⟨#[]⟩) (.string ⟨#[]⟩) (.int .i64 0) (.bool false) (.int .i64 0) (.int .i64 0) (.int .i64 0) (.int .i64 0) (.int .i64 0) (.string ⟨#[]⟩)) (by omega); obtain ⟨d0, d1, d2, d3, d4, d5, d6, d7, d8, d9, d10⟩ := hV3.cells; have y0 := hV3.fz 0; have y1 := hV3.fz 1; have y2 := hV3.fz 2; have y3 := hV3.fz 3; have y4 := hV3.fz 4; have y5 := hV3.fz 5; have y6 := hV3.fz 6; have y7 := hV3.fz 7; have y8 := hV3.fz 8; have y9 := hV3.fz 9; have y10 := hV3.fz 10)) | (go_at_call 119; ((with_reducible refine (rl_hex _ _ _ hyb.1 hyb.2 HV2.out).mono ?_); rintro e w' ⟨rfl, rfl⟩))))
          go_roundw
          case rel => exact ⟨m, j + 1, v * 16 + d', by omega, by go_num, by go_num, HB', HF', hU3, hV3.put 0 ⟨#[]⟩ ⟨#[]⟩ 0 0 0 0 ⟨#[]⟩, own_set (hO.trans hO4) (by omega) _ _ _ _ _ _ _ _ _ _ _⟩
          case measure => simp [intOf]; omega
/-- The reference's literal characters. -/
theorem rchar_p (s : ByteArray) (fr i : Nat) (w : World) (hz : s.size ≤ 1000000) (hf : fr ≤ s.size) (hi : i ≤ s.size) :
    Calls Tryz.prog 99 #[.string s, .int .i64 fr, .int .i64 i] w fun e w' => CPost s (charO s fr i) e ∧ Only (fun _ => False) w w' := by
  unfold charO
  by_cases h92 : byteAt s i = 92
  · rw [if_pos h92]
    cases hp : prn (byteAt s (i + 1))
    · have e0 : escR s fr (i + 1) = litBad s fr (i + 1) := by
        unfold escR
        have hx : ∀ k : Int, prn k = true → byteAt s (i + 1) ≠ k := fun k hk h => by rw [h, hk] at hp; cases hp
        rw [if_neg (hx 110 (by decide)), if_neg (hx 116 (by decide)), if_neg (by rintro (h | h | h); exact hx 92 (by decide) h; exact hx 39 (by decide) h; exact hx 34 (by decide) h), if_neg (hx 120 (by decide))]
      rw [e0]
      exact (rchar_3 s fr i w hz hf h92 hp).mono fun e w' ⟨he, ho⟩ => ⟨CPost.lit he rfl hf, ho⟩
    · unfold escR
      by_cases n1 : byteAt s (i + 1) = 110
      · rw [if_pos n1]; exact rchar_n s fr i w hz hf h92 n1
      rw [if_neg n1]
      by_cases n2 : byteAt s (i + 1) = 116
      · rw [if_pos n2]; exact rchar_t s fr i w hz hf h92 n2
      rw [if_neg n2]
      by_cases n3 : byteAt s (i + 1) = 92
      · rw [if_pos (.inl n3), n3]; exact rchar_a s fr i w hz hf h92 n3
      by_cases n4 : byteAt s (i + 1) = 39
      · rw [if_pos (.inr (.inl n4)), n4]; exact rchar_b s fr i w hz hf h92 n4
      by_cases n5 : byteAt s (i + 1) = 34
      · rw [if_pos (.inr (.inr n5)), n5]; exact rchar_c s fr i w hz hf h92 n5
      rw [if_neg (by rintro (h | h | h); exact n3 h; exact n4 h; exact n5 h)]
      by_cases n6 : byteAt s (i + 1) = 120
      · rw [if_pos n6]; exact rchar_x s fr i w hz hf h92 n6
      rw [if_neg n6]
      exact (rchar_6 s fr i w hz hf h92 hp n1 n2 n3 n4 n5 n6).mono fun e w' ⟨he, ho⟩ => ⟨CPost.lit (a := (7, fr)) he (litA_prn hp) hf, ho⟩
  · rw [if_neg h92]
    cases hp : prn (byteAt s i)
    · rw [if_pos rfl]
      exact (rchar_1 s fr i w hz hf (by omega) hp).mono fun e w' ⟨he, ho⟩ => ⟨CPost.lit he rfl hf, ho⟩
    · rw [if_neg (by decide)]
      exact rchar_2 s fr i w hz hf hp h92
end Go.Proofs.YtelichlplblboaaGreatDoor
