/-
  WALKS. The reference's lexer: quoted, text.
-/
import Derived.Test.YtelichlplblboaaGreatDoorRl4
import Derived.Test.YtelichlplblboaaGreatDoorRl8
namespace Go.Proofs.YtelichlplblboaaGreatDoor
open Go.RowKit Go.Maps
theorem TPost.lit {s : ByteArray} {i0 i : Nat} {e : Ending} {a : Int × Nat} (h : e = .returned (uV 0 ⟨#[]⟩ ⟨#[]⟩ 0 0 a.1 a.2 ⟨#[]⟩)) (ha : litA s i0 i = a) (h0 : i0 ≤ s.size) : TPost s (.bad (litF s i0 i)) e :=
  ⟨_, _, _, h, by rw [litA_F, ha]; rfl, by rw [← ha]; exact litA_ne s i0 i, by rw [← ha]; exact litA_le h0 i⟩
theorem UX.grown {w w' : World} {g : Nat} {op : Int} {q t : ByteArray} {n e code at' : Int} {nm : ByteArray} {row : Option Nat} (h : UX w g op q t n e code at' nm) (hg : w.grownBy w' row) (hne : row ≠ some g) : UX w' g op q t n e code at' nm :=
  (hg.block g h.lt (fun e => hne e.symm)).trans h
theorem stepBad (s : ByteArray) (fr i : Nat) (hz : s.size ≤ 1000000) (hf : fr ≤ s.size) (hi : i ≤ 1000001) (hp : prn (byteAt s i) = false) : ∃ (a1 : Int) (a2 : Nat), litA s fr i = (a1, a2) ∧ (a1 != 0) = true ∧
    ∀ (j : Int) (w : World), j = (i : Int) → Calls Tryz.prog 98 #[.string s, .int .i64 fr, .int .i64 j] w fun e w' => e = .returned (uV 0 ⟨#[]⟩ ⟨#[]⟩ 0 0 a1 a2 ⟨#[]⟩) ∧ Only (fun _ => False) w w' :=
  ⟨_, _, rfl, bne_iff_ne.2 (litA_ne s fr i), fun j w hj => rstep_badj s fr i j _ w hj hz (by omega) (by omega) hp rfl⟩
theorem rchar_j (s : ByteArray) (fr i : Nat) (o : RR Int) (hz : s.size ≤ 1000000) (hf : fr ≤ s.size) (hi : i ≤ s.size) (h : charO s fr i = o) (j : Int) (w : World) (hj : j = (i : Int)) :
    Calls Tryz.prog 99 #[.string s, .int .i64 fr, .int .i64 j] w fun e w' => CPost s o e ∧ Only (fun _ => False) w w' := by
  subst hj h; exact rchar_p s fr i w hz hf hi
set_option maxRecDepth 100000 in
set_option maxHeartbeats 2000000 in
theorem rquo_1 (s : ByteArray) (i : Nat) (w : World) (hz : s.size ≤ 1000000) (hi : i ≤ s.size) (hp : prn (byteAt s (i + 1)) = false) :
    Calls Tryz.prog 67 #[.string s, .int .i64 i] w fun e w' => TPost s (.bad (litF s i (i + 1))) e ∧ Only (fun _ => False) w w' := by
  obtain ⟨a1, a2, hA, hne, hS⟩ := stepBad s i (i + 1) hz hi (by omega) hp
  have HS := Lib.hid hS
  have HA := Lib.hid hA
  clear hA hS hp
  go_enter Tryz.func67, Tryz.ntmps67
  go_wp2_with (go_loud (first | (go_at_call 98; ((with_reducible refine (HS.out _ _ (by omega)).mono ?_); rintro r w1 ⟨rfl, hO1⟩; have hU1 := ((UX.new w 0 ⟨#[]⟩ ⟨#[]⟩ 0 0 0 0 ⟨#[]⟩).keep hO1).keep (uA_only w1 0 ⟨#[]⟩ ⟨#[]⟩ 0 0 a1 a2 ⟨#[]⟩); obtain ⟨c0, c1, c2, c3, c4, c5, c6, c7, c8, c9, c10⟩ := hU1.cells; have z0 := hU1.fz 0; have z1 := hU1.fz 1; have z2 := hU1.fz 2; have z3 := hU1.fz 3; have z4 := hU1.fz 4; have z5 := hU1.fz 5; have z6 := hU1.fz 6; have z7 := hU1.fz 7; have z8 := hU1.fz 8; have z9 := hU1.fz 9; have z10 := hU1.fz 10))))
  exact bodyPost_ret (v := uV 0 ⟨#[]⟩ ⟨#[]⟩ 0 0 a1 a2 ⟨#[]⟩) (by simp [results, Tryz.results67, go_sem, c0, c1, c2, c3, c4, c5, c6, c7, c8, c9, c10]) rfl ⟨TPost.lit rfl HA.out hi, own_set (((uA_only w _ _ _ _ _ _ _ _).trans hO1).trans (uA_only w1 _ _ _ _ _ _ _ _)) (Nat.le_refl _) _ _ _ _ _ _ _ _ _ _ _⟩
set_option maxRecDepth 100000 in
set_option maxHeartbeats 2000000 in
theorem rquo_2 (s : ByteArray) (i : Nat) (w : World) (hz : s.size ≤ 1000000) (hi : i ≤ s.size) (hp : prn (byteAt s (i + 1)) = true) (h39 : byteAt s (i + 1) = 39) :
    Calls Tryz.prog 67 #[.string s, .int .i64 i] w fun e w' => TPost s (.bad (litF s i (i + 1))) e ∧ Only (fun _ => False) w w' := by
  have HP := Lib.hid hp
  have hi1 : i + 1 < s.size := byteAt_pos (by intro h; rw [h, prn_0] at hp; cases hp)
  obtain ⟨y, hy⟩ : ∃ y, byteAt s (i + 1) = y := ⟨_, rfl⟩
  have hSy : (((s[i + 1]'hi1).toNat : Nat) : Int) = y := by rw [← byteAt_lt hi1]; exact hy
  obtain rfl : y = 39 := by rw [← hy]; exact h39
  have HA := Lib.hid (litA_prn (i0 := i) hp)
  clear hp hy h39
  go_enter Tryz.func67, Tryz.ntmps67
  go_wp2_with (go_loud (first | (go_at_call 98; ((with_reducible refine (rstep_okj s _ (i + 1) _ _ (by omega) hz HP.out).mono ?_); rintro r w1 ⟨rfl, hO1⟩; have hU1 := ((UX.new w 0 ⟨#[]⟩ ⟨#[]⟩ 0 0 0 0 ⟨#[]⟩).keep hO1).keep (uA_only w1 0 ⟨#[]⟩ ⟨#[]⟩ 0 0 0 0 ⟨#[]⟩); have hV1 := UX.new w1 0 ⟨#[]⟩ ⟨#[]⟩ 0 0 0 0 ⟨#[]⟩)) | (go_at_call 70; ((with_reducible refine (rbad_p _ _ _ _).mono ?_); rintro r w2 ⟨rfl, hO2⟩; have hU2 := hU1.keep hO2; obtain ⟨c0, c1, c2, c3, c4, c5, c6, c7, c8, c9, c10⟩ := hU2.cells; have z0 := hU2.fz 0; have z1 := hU2.fz 1; have z2 := hU2.fz 2; have z3 := hU2.fz 3; have z4 := hU2.fz 4; have z5 := hU2.fz 5; have z6 := hU2.fz 6; have z7 := hU2.fz 7; have z8 := hU2.fz 8; have z9 := hU2.fz 9; have z10 := hU2.fz 10))))
  exact bodyPost_ret (v := uV 0 ⟨#[]⟩ ⟨#[]⟩ 0 0 7 i ⟨#[]⟩) (by simp [results, Tryz.results67, go_sem, c0, c1, c2, c3, c4, c5, c6, c7, c8, c9, c10]) rfl ⟨TPost.lit (a := (7, i)) rfl HA.out hi, own_set ((((uA_only w _ _ _ _ _ _ _ _).trans hO1).trans (uA_only w1 _ _ _ _ _ _ _ _)).trans hO2) (Nat.le_refl _) _ _ _ _ _ _ _ _ _ _ _⟩
set_option maxRecDepth 100000 in
set_option maxHeartbeats 2000000 in
theorem rquo_3 (s : ByteArray) (i : Nat) (w : World) (hz : s.size ≤ 1000000) (hi : i ≤ s.size) (hp : prn (byteAt s (i + 1)) = true) (h39 : byteAt s (i + 1) ≠ 39) (g : Flt) (hc : charO s i (i + 1) = .bad g) :
    Calls Tryz.prog 67 #[.string s, .int .i64 i] w fun e w' => TPost s (.bad g) e ∧ Only (fun _ => False) w w' := by
  have HP := Lib.hid hp
  have hi1 : i + 1 < s.size := byteAt_pos (by intro h; rw [h, prn_0] at hp; cases hp)
  obtain ⟨y, hy⟩ : ∃ y, byteAt s (i + 1) = y := ⟨_, rfl⟩
  have hSy : (((s[i + 1]'hi1).toNat : Nat) : Int) = y := by rw [← byteAt_lt hi1]; exact hy
  have e39 : (y == 39) = false := by rw [← hy]; simpa using h39
  have HCH := Lib.hid hc
  clear hp hy h39 hc
  go_enter Tryz.func67, Tryz.ntmps67
  go_wp2_with (go_loud (first | (go_at_call 98; ((with_reducible refine (rstep_okj s _ (i + 1) _ _ (by omega) hz HP.out).mono ?_); rintro r w1 ⟨rfl, hO1⟩; have hU1 := ((UX.new w 0 ⟨#[]⟩ ⟨#[]⟩ 0 0 0 0 ⟨#[]⟩).keep hO1).keep (uA_only w1 0 ⟨#[]⟩ ⟨#[]⟩ 0 0 0 0 ⟨#[]⟩); have hV1 := UX.new w1 0 ⟨#[]⟩ ⟨#[]⟩ 0 0 0 0 ⟨#[]⟩)) | (go_at_call 99; ((with_reducible refine (rchar_j s i (i + 1) _ hz hi (by omega) HCH.out _ _ (by omega)).mono ?_); rintro r w2 ⟨⟨code, a, rfl, hg, hcode, ha⟩, hO2⟩; have ecode : (code != 0) = true := (by simpa using hcode); have hU2 := (hU1.keep hO2).keep (uA_only w2 0 ⟨#[]⟩ ⟨#[]⟩ 0 0 code a ⟨#[]⟩); obtain ⟨c0, c1, c2, c3, c4, c5, c6, c7, c8, c9, c10⟩ := hU2.cells; have z0 := hU2.fz 0; have z1 := hU2.fz 1; have z2 := hU2.fz 2; have z3 := hU2.fz 3; have z4 := hU2.fz 4; have z5 := hU2.fz 5; have z6 := hU2.fz 6; have z7 := hU2.fz 7; have z8 := hU2.fz 8; have z9 := hU2.fz 9; have z10 := hU2.fz 10))))
  exact bodyPost_ret (v := uV 0 ⟨#[]⟩ ⟨#[]⟩ 0 0 code a ⟨#[]⟩) (by simp [results, Tryz.results67, go_sem, c0, c1, c2, c3, c4, c5, c6, c7, c8, c9, c10]) rfl ⟨⟨code, a, ⟨#[]⟩, rfl, hg, hcode, ha⟩, own_set (((((uA_only w _ _ _ _ _ _ _ _).trans hO1).trans (uA_only w1 _ _ _ _ _ _ _ _)).trans hO2).trans (uA_only w2 _ _ _ _ _ _ _ _)) (Nat.le_refl _) _ _ _ _ _ _ _ _ _ _ _⟩
set_option maxRecDepth 100000 in
set_option maxHeartbeats 4000000 in
theorem rquo_4 (s : ByteArray) (i : Nat) (w : World) (hz : s.size ≤ 1000000) (hi : i ≤ s.size) (hp : prn (byteAt s (i + 1)) = true) (h39 : byteAt s (i + 1) ≠ 39) (cz : Int) (ez : Nat) (hc : charO s i (i + 1) = .ok cz ez) (he : ez ≤ s.size) (hp2 : prn (byteAt s ez) = false) :
    Calls Tryz.prog 67 #[.string s, .int .i64 i] w fun e w' => TPost s (.bad (litF s i ez)) e ∧ Only (fun _ => False) w w' := by
  have HP := Lib.hid hp
  have hi1 : i + 1 < s.size := byteAt_pos (by intro h; rw [h, prn_0] at hp; cases hp)
  obtain ⟨y, hy⟩ : ∃ y, byteAt s (i + 1) = y := ⟨_, rfl⟩
  have hSy : (((s[i + 1]'hi1).toNat : Nat) : Int) = y := by rw [← byteAt_lt hi1]; exact hy
  have e39 : (y == 39) = false := by rw [← hy]; simpa using h39
  have HCH := Lib.hid hc
  clear hp hy h39 hc
  obtain ⟨a1, a2, hA, hne, hS⟩ := stepBad s i ez hz hi (by omega) hp2
  have HS := Lib.hid hS
  have HA := Lib.hid hA
  clear hA hS hp2
  go_enter Tryz.func67, Tryz.ntmps67
  go_wp2_with (go_loud (first | (go_at_call 98; ((with_reducible refine (rstep_okj s _ (i + 1) _ _ (by omega) hz HP.out).mono ?_); rintro r w1 ⟨rfl, hO1⟩; have hU1 := ((UX.new w 0 ⟨#[]⟩ ⟨#[]⟩ 0 0 0 0 ⟨#[]⟩).keep hO1).keep (uA_only w1 0 ⟨#[]⟩ ⟨#[]⟩ 0 0 0 0 ⟨#[]⟩); have hV1 := UX.new w1 0 ⟨#[]⟩ ⟨#[]⟩ 0 0 0 0 ⟨#[]⟩)) | (go_at_call 99; ((with_reducible refine (rchar_j s i (i + 1) _ hz hi (by omega) HCH.out _ _ (by omega)).mono ?_); rintro r w2 ⟨rfl, hO2⟩; have hU2 := (hU1.keep hO2).keep (uA_only w2 0 ⟨#[]⟩ ⟨#[]⟩ cz ez 0 0 ⟨#[]⟩); have hV2 := (hV1.keep hO2).keep (uA_only w2 0 ⟨#[]⟩ ⟨#[]⟩ cz ez 0 0 ⟨#[]⟩); have hW2 := UX.new w2 0 ⟨#[]⟩ ⟨#[]⟩ cz ez 0 0 ⟨#[]⟩; have hlt := hV1.lt; have hs1 := hO1.size; rw [uA_size] at hs1; have hs2 := hO2.size; rw [uA_size] at hs2; have n12 : ¬ w2.heap.size = w1.heap.size := (by omega))) | (go_at_call 98; ((with_reducible refine (HS.out _ _ rfl).mono ?_); rintro r w3 ⟨rfl, hO3⟩; have hV3 := hV2.keep hO3; have hU3 := (hU2.keep hO3).only (Only.set11 w3 w1.heap.size (.int .i64 0) (.string ⟨#[]⟩) (.string ⟨#[]⟩) (.int .i64 0) (.bool false) (.int .i64 0) (.int .i64 0) (.int .i64 0) (.int .i64 a1) (.int .i64 a2) (.string ⟨#[]⟩)) (by omega); have hW3 := (hW2.keep hO3).only (Only.set11 w3 w1.heap.size (.int .i64 0) (.string ⟨#[]⟩) (.string ⟨#[]⟩) (.int .i64 0) (.bool false) (.int .i64 0) (.int .i64 0) (.int .i64 0) (.int .i64 a1) (.int .i64 a2) (.string ⟨#[]⟩)) (by omega); obtain ⟨d0, d1, d2, d3, d4, d5, d6, d7, d8, d9, d10⟩ := hV3.cells; have y0 := hV3.fz 0; have y1 := hV3.fz 1; have y2 := hV3.fz 2; have y3 := hV3.fz 3; have y4 := hV3.fz 4; have y5 := hV3.fz 5; have y6 := hV3.fz 6; have y7 := hV3.fz 7; have y8 := hV3.fz 8; have y9 := hV3.fz 9; have y10 := hV3.fz 10; obtain ⟨c0, c1, c2, c3, c4, c5, c6, c7, c8, c9, c10⟩ := hU3.cells; have z0 := hU3.fz 0; have z1 := hU3.fz 1; have z2 := hU3.fz 2; have z3 := hU3.fz 3; have z4 := hU3.fz 4; have z5 := hU3.fz 5; have z6 := hU3.fz 6; have z7 := hU3.fz 7; have z8 := hU3.fz 8; have z9 := hU3.fz 9; have z10 := hU3.fz 10; obtain ⟨f0, f1, f2, f3, f4, f5, f6, f7, f8, f9, f10⟩ := hW3.cells; have x0 := hW3.fz 0; have x1 := hW3.fz 1; have x2 := hW3.fz 2; have x3 := hW3.fz 3; have x4 := hW3.fz 4; have x5 := hW3.fz 5; have x6 := hW3.fz 6; have x7 := hW3.fz 7; have x8 := hW3.fz 8; have x9 := hW3.fz 9; have x10 := hW3.fz 10))))
  exact bodyPost_ret (v := uV 0 ⟨#[]⟩ ⟨#[]⟩ 0 0 a1 a2 ⟨#[]⟩) (by simp [results, Tryz.results67, go_sem, c0, c1, c2, c3, c4, c5, c6, c7, c8, c9, c10]) rfl ⟨TPost.lit rfl HA.out hi, own_set (own_set ((((((uA_only w _ _ _ _ _ _ _ _).trans hO1).trans (uA_only w1 _ _ _ _ _ _ _ _)).trans hO2).trans (uA_only w2 _ _ _ _ _ _ _ _)).trans hO3) (by omega) _ _ _ _ _ _ _ _ _ _ _) (Nat.le_refl _) _ _ _ _ _ _ _ _ _ _ _⟩
set_option maxRecDepth 100000 in
set_option maxHeartbeats 4000000 in
theorem rquo_5 (s : ByteArray) (i : Nat) (w : World) (hz : s.size ≤ 1000000) (hi : i ≤ s.size) (hp : prn (byteAt s (i + 1)) = true) (h39 : byteAt s (i + 1) ≠ 39) (cz : Int) (ez : Nat) (hc : charO s i (i + 1) = .ok cz ez) (he : ez ≤ s.size) (hp2 : prn (byteAt s ez) = true) (hn : byteAt s ez ≠ 39) :
    Calls Tryz.prog 67 #[.string s, .int .i64 i] w fun e w' => TPost s (.bad (litF s i ez)) e ∧ Only (fun _ => False) w w' := by
  have HP := Lib.hid hp
  have hi1 : i + 1 < s.size := byteAt_pos (by intro h; rw [h, prn_0] at hp; cases hp)
  obtain ⟨y, hy⟩ : ∃ y, byteAt s (i + 1) = y := ⟨_, rfl⟩
  have hSy : (((s[i + 1]'hi1).toNat : Nat) : Int) = y := by rw [← byteAt_lt hi1]; exact hy
  have e39 : (y == 39) = false := by rw [← hy]; simpa using h39
  have HCH := Lib.hid hc
  clear hp hy h39 hc
  have HPE := Lib.hid hp2
  have hel : ez < s.size := byteAt_pos (by intro h; rw [h, prn_0] at hp2; cases hp2)
  obtain ⟨v, hv⟩ : ∃ v, byteAt s ez = v := ⟨_, rfl⟩
  have hSv : (((s[ez]'hel).toNat : Nat) : Int) = v := by rw [← byteAt_lt hel]; exact hv
  have ev : (v != 39) = true := by rw [← hv]; simpa using hn
  have HA := Lib.hid (litA_prn (i0 := i) hp2)
  clear hp2 hv hn
  go_enter Tryz.func67, Tryz.ntmps67
  go_wp2_with (go_loud (first | (go_at_call 98; ((with_reducible refine (rstep_okj s _ (i + 1) _ _ (by omega) hz HP.out).mono ?_); rintro r w1 ⟨rfl, hO1⟩; have hU1 := ((UX.new w 0 ⟨#[]⟩ ⟨#[]⟩ 0 0 0 0 ⟨#[]⟩).keep hO1).keep (uA_only w1 0 ⟨#[]⟩ ⟨#[]⟩ 0 0 0 0 ⟨#[]⟩); have hV1 := UX.new w1 0 ⟨#[]⟩ ⟨#[]⟩ 0 0 0 0 ⟨#[]⟩)) | (go_at_call 99; ((with_reducible refine (rchar_j s i (i + 1) _ hz hi (by omega) HCH.out _ _ (by omega)).mono ?_); rintro r w2 ⟨rfl, hO2⟩; have hU2 := (hU1.keep hO2).keep (uA_only w2 0 ⟨#[]⟩ ⟨#[]⟩ cz ez 0 0 ⟨#[]⟩); have hV2 := (hV1.keep hO2).keep (uA_only w2 0 ⟨#[]⟩ ⟨#[]⟩ cz ez 0 0 ⟨#[]⟩); have hW2 := UX.new w2 0 ⟨#[]⟩ ⟨#[]⟩ cz ez 0 0 ⟨#[]⟩; have hlt := hV1.lt; have hs1 := hO1.size; rw [uA_size] at hs1; have hs2 := hO2.size; rw [uA_size] at hs2; have n12 : ¬ w2.heap.size = w1.heap.size := (by omega))) | (go_at_call 98; ((with_reducible refine (rstep_ok s _ ez _ hz HPE.out).mono ?_); rintro r w3 ⟨rfl, hO3⟩; have hV3 := hV2.keep hO3; have hU3 := (hU2.keep hO3).only (Only.set11 w3 w1.heap.size (.int .i64 0) (.string ⟨#[]⟩) (.string ⟨#[]⟩) (.int .i64 0) (.bool false) (.int .i64 0) (.int .i64 0) (.int .i64 0) (.int .i64 0) (.int .i64 0) (.string ⟨#[]⟩)) (by omega); have hW3 := (hW2.keep hO3).only (Only.set11 w3 w1.heap.size (.int .i64 0) (.string ⟨#[]⟩) (.string ⟨#[]⟩) (.int .i64 0) (.bool false) (.int .i64 0) (.int .i64 0) (.int .i64 0) (.int .i64 0) (.int .i64 0) (.string ⟨#[]⟩)) (by omega); obtain ⟨d0, d1, d2, d3, d4, d5, d6, d7, d8, d9, d10⟩ := hV3.cells; have y0 := hV3.fz 0; have y1 := hV3.fz 1; have y2 := hV3.fz 2; have y3 := hV3.fz 3; have y4 := hV3.fz 4; have y5 := hV3.fz 5; have y6 := hV3.fz 6; have y7 := hV3.fz 7; have y8 := hV3.fz 8; have y9 := hV3.fz 9; have y10 := hV3.fz 10; obtain ⟨c0, c1, c2, c3, c4, c5, c6, c7, c8, c9, c10⟩ := hU3.cells; have z0 := hU3.fz 0; have z1 := hU3.fz 1; have z2 := hU3.fz 2; have z3 := hU3.fz 3; have z4 := hU3.fz 4; have z5 := hU3.fz 5; have z6 := hU3.fz 6; have z7 := hU3.fz 7; have z8 := hU3.fz 8; have z9 := hU3.fz 9; have z10 := hU3.fz 10; obtain ⟨f0, f1, f2, f3, f4, f5, f6, f7, f8, f9, f10⟩ := hW3.cells; have x0 := hW3.fz 0; have x1 := hW3.fz 1; have x2 := hW3.fz 2; have x3 := hW3.fz 3; have x4 := hW3.fz 4; have x5 := hW3.fz 5; have x6 := hW3.fz 6; have x7 := hW3.fz 7; have x8 := hW3.fz 8; have x9 := hW3.fz 9; have x10 := hW3.fz 10)) | (go_at_call 70; ((with_reducible refine (rbad_p _ _ _ _).mono ?_); rintro r w4 ⟨rfl, hO4⟩; have hU4 := hU3.keep hO4; obtain ⟨b0, b1, b2, b3, b4, b5, b6, b7, b8, b9, b10⟩ := hU4.cells; have v0 := hU4.fz 0; have v1 := hU4.fz 1; have v2 := hU4.fz 2; have v3 := hU4.fz 3; have v4 := hU4.fz 4; have v5 := hU4.fz 5; have v6 := hU4.fz 6; have v7 := hU4.fz 7; have v8 := hU4.fz 8; have v9 := hU4.fz 9; have v10 := hU4.fz 10))))
  exact bodyPost_ret (v := uV 0 ⟨#[]⟩ ⟨#[]⟩ 0 0 7 i ⟨#[]⟩) (by simp [results, Tryz.results67, go_sem, b0, b1, b2, b3, b4, b5, b6, b7, b8, b9, b10]) rfl ⟨TPost.lit (a := (7, i)) rfl HA.out hi, own_set ((own_set ((((((uA_only w _ _ _ _ _ _ _ _).trans hO1).trans (uA_only w1 _ _ _ _ _ _ _ _)).trans hO2).trans (uA_only w2 _ _ _ _ _ _ _ _)).trans hO3) (by omega) _ _ _ _ _ _ _ _ _ _ _).trans hO4) (Nat.le_refl _) _ _ _ _ _ _ _ _ _ _ _⟩
set_option maxRecDepth 100000 in
set_option maxHeartbeats 4000000 in
theorem rquo_6 (s : ByteArray) (i : Nat) (w : World) (hz : s.size ≤ 1000000) (hi : i ≤ s.size) (hp : prn (byteAt s (i + 1)) = true) (h39 : byteAt s (i + 1) ≠ 39) (cz : Int) (ez : Nat) (hc : charO s i (i + 1) = .ok cz ez) (he : ez ≤ s.size) (hn : byteAt s ez = 39) :
    Calls Tryz.prog 67 #[.string s, .int .i64 i] w fun e w' => TPost s (.ok ⟨6, nil8, nil8, cz⟩ (ez + 1)) e ∧ Only (fun _ => False) w w' := by
  have hp2 : prn (byteAt s ez) = true := by rw [hn]; decide
  have HP := Lib.hid hp
  have hi1 : i + 1 < s.size := byteAt_pos (by intro h; rw [h, prn_0] at hp; cases hp)
  obtain ⟨y, hy⟩ : ∃ y, byteAt s (i + 1) = y := ⟨_, rfl⟩
  have hSy : (((s[i + 1]'hi1).toNat : Nat) : Int) = y := by rw [← byteAt_lt hi1]; exact hy
  have e39 : (y == 39) = false := by rw [← hy]; simpa using h39
  have HCH := Lib.hid hc
  clear hp hy h39 hc
  have HPE := Lib.hid hp2
  have hel : ez < s.size := byteAt_pos (by intro h; rw [h, prn_0] at hp2; cases hp2)
  obtain ⟨v, hv⟩ : ∃ v, byteAt s ez = v := ⟨_, rfl⟩
  have hSv : (((s[ez]'hel).toNat : Nat) : Int) = v := by rw [← byteAt_lt hel]; exact hv
  obtain rfl : v = 39 := by rw [← hv]; exact hn
  clear hp2 hv hn
  go_enter Tryz.func67, Tryz.ntmps67
  go_wp2_with (go_loud (first | (go_at_call 98; ((with_reducible refine (rstep_okj s _ (i + 1) _ _ (by omega) hz HP.out).mono ?_); rintro r w1 ⟨rfl, hO1⟩; have hU1 := ((UX.new w 0 ⟨#[]⟩ ⟨#[]⟩ 0 0 0 0 ⟨#[]⟩).keep hO1).keep (uA_only w1 0 ⟨#[]⟩ ⟨#[]⟩ 0 0 0 0 ⟨#[]⟩); have hV1 := UX.new w1 0 ⟨#[]⟩ ⟨#[]⟩ 0 0 0 0 ⟨#[]⟩)) | (go_at_call 99; ((with_reducible refine (rchar_j s i (i + 1) _ hz hi (by omega) HCH.out _ _ (by omega)).mono ?_); rintro r w2 ⟨rfl, hO2⟩; have hU2 := (hU1.keep hO2).keep (uA_only w2 0 ⟨#[]⟩ ⟨#[]⟩ cz ez 0 0 ⟨#[]⟩); have hV2 := (hV1.keep hO2).keep (uA_only w2 0 ⟨#[]⟩ ⟨#[]⟩ cz ez 0 0 ⟨#[]⟩); have hW2 := UX.new w2 0 ⟨#[]⟩ ⟨#[]⟩ cz ez 0 0 ⟨#[]⟩; have hlt := hV1.lt; have hs1 := hO1.size; rw [uA_size] at hs1; have hs2 := hO2.size; rw [uA_size] at hs2; have n12 : ¬ w2.heap.size = w1.heap.size := (by omega))) | (go_at_call 98; ((with_reducible refine (rstep_ok s _ ez _ hz HPE.out).mono ?_); rintro r w3 ⟨rfl, hO3⟩; have hV3 := hV2.keep hO3; have hU3 := (hU2.keep hO3).only (Only.set11 w3 w1.heap.size (.int .i64 0) (.string ⟨#[]⟩) (.string ⟨#[]⟩) (.int .i64 0) (.bool false) (.int .i64 0) (.int .i64 0) (.int .i64 0) (.int .i64 0) (.int .i64 0) (.string ⟨#[]⟩)) (by omega); have hW3 := (hW2.keep hO3).only (Only.set11 w3 w1.heap.size (.int .i64 0) (.string ⟨#[]⟩) (.string ⟨#[]⟩) (.int .i64 0) (.bool false) (.int .i64 0) (.int .i64 0) (.int .i64 0) (.int .i64 0) (.int .i64 0) (.string ⟨#[]⟩)) (by omega); obtain ⟨d0, d1, d2, d3, d4, d5, d6, d7, d8, d9, d10⟩ := hV3.cells; have y0 := hV3.fz 0; have y1 := hV3.fz 1; have y2 := hV3.fz 2; have y3 := hV3.fz 3; have y4 := hV3.fz 4; have y5 := hV3.fz 5; have y6 := hV3.fz 6; have y7 := hV3.fz 7; have y8 := hV3.fz 8; have y9 := hV3.fz 9; have y10 := hV3.fz 10; obtain ⟨c0, c1, c2, c3, c4, c5, c6, c7, c8, c9, c10⟩ := hU3.cells; have z0 := hU3.fz 0; have z1 := hU3.fz 1; have z2 := hU3.fz 2; have z3 := hU3.fz 3; have z4 := hU3.fz 4; have z5 := hU3.fz 5; have z6 := hU3.fz 6; have z7 := hU3.fz 7; have z8 := hU3.fz 8; have z9 := hU3.fz 9; have z10 := hU3.fz 10; obtain ⟨f0, f1, f2, f3, f4, f5, f6, f7, f8, f9, f10⟩ := hW3.cells; have x0 := hW3.fz 0; have x1 := hW3.fz 1; have x2 := hW3.fz 2; have x3 := hW3.fz 3; have x4 := hW3.fz 4; have x5 := hW3.fz 5; have x6 := hW3.fz 6; have x7 := hW3.fz 7; have x8 := hW3.fz 8; have x9 := hW3.fz 9; have x10 := hW3.fz 10))))
  exact bodyPost_ret (v := uV 6 ⟨#[]⟩ ⟨#[]⟩ cz (ez + 1 : Nat) 0 0 ⟨#[]⟩) (by simp [results, Tryz.results67, go_sem, c0, c1, c2, c3, c4, c5, c6, c7, c8, c9, c10]) rfl ⟨rfl, own_set (own_set ((((((uA_only w _ _ _ _ _ _ _ _).trans hO1).trans (uA_only w1 _ _ _ _ _ _ _ _)).trans hO2).trans (uA_only w2 _ _ _ _ _ _ _ _)).trans hO3) (by omega) _ _ _ _ _ _ _ _ _ _ _) (Nat.le_refl _) _ _ _ _ _ _ _ _ _ _ _⟩
theorem rquoted_p (s : ByteArray) (i : Nat) (w : World) (hz : s.size ≤ 1000000) (hi : i ≤ s.size) :
    Calls Tryz.prog 67 #[.string s, .int .i64 i] w fun e w' => TPost s (chrR s i) e ∧ Only (fun _ => False) w w' := by
  unfold chrR
  cases hp : prn (byteAt s (i + 1))
  · have e1 : litR s 39 i (i + 1) = litBad s i (i + 1) := by
      unfold litR
      rw [if_neg (by intro h; rw [h] at hp; revert hp; decide), if_pos (.inr hp)]
    rw [e1]
    exact rquo_1 s i w hz hi hp
  · by_cases h39 : byteAt s (i + 1) = 39
    · have e1 : litR s 39 i (i + 1) = litBad s i (i + 1) := by
        unfold litR
        rw [if_neg (by omega), if_pos (.inl h39)]
      rw [e1]
      exact rquo_2 s i w hz hi hp h39
    · rw [litR_O h39]
      cases hc : charO s i (i + 1) with
      | bad g => exact rquo_3 s i w hz hi hp h39 g hc
      | ok cz ez =>
        have hle : ez ≤ s.size := by
          have h := hc
          rw [← litR_O h39] at h
          exact (litR_ok h).2.1
        simp only
        by_cases hn : byteAt s ez = 39
        · rw [if_pos hn]; exact rquo_6 s i w hz hi hp h39 cz ez hc hle hn
        · rw [if_neg hn]
          cases hp2 : prn (byteAt s ez)
          · exact rquo_4 s i w hz hi hp h39 cz ez hc hle hp2
          · exact rquo_5 s i w hz hi hp h39 cz ez hc hle hp2 hn
set_option maxRecDepth 100000 in
set_option maxHeartbeats 16000000 in
theorem rtext_p (s : ByteArray) (i : Nat) (w : World) (hz : s.size ≤ 1000000) (hil : i < s.size) :
    Calls Tryz.prog 68 #[.string s, .int .i64 i] w fun e w' => TPost s (txtR s i) e ∧ Only (fun _ => False) w w' := by
  obtain ⟨u0, hu, hu0, hu1, hu2⟩ := info_parts infoU8
  have hi : i ≤ s.size := Nat.le_of_lt hil
  obtain ⟨R, hR⟩ : ∃ R, txtR s i = R := ⟨_, rfl⟩
  rw [hR]
  have HR0 : Hid (txtF s i (s.size + 2 - i) (i + 1) [] = R) := Lib.hid hR
  clear hR
  go_enter Tryz.func68, Tryz.ntmps68
  go_wp2
  go_loopw [5, 6] (fun v jv wr => ∃ (k j : Nat) (l : List UInt8), s.size + 3 ≤ j + k ∧ j ≤ s.size ∧ jv = .int .i64 j ∧ Hid (txtF s i k j l = R) ∧ l.length ≤ 200 ∧ BR wr (w.heap.size + 1) v l ∧ UB wr w.heap.size ∧ Only (fun _ => False) w wr) (fun _ jv _ => s.size + 5 - (intOf jv).toNat)
  case atStart => exact ⟨s.size + 2 - i, i + 1, [], by omega, by omega, by go_num, HR0, by simp, World.ownsRow_nil _ _ _ _, UX.new w 0 ⟨#[]⟩ ⟨#[]⟩ 0 0 0 0 ⟨#[]⟩, uA_only w _ _ _ _ _ _ _ _⟩
  case round =>
    obtain ⟨k, j, l, hk, hj, rfl, HF, hll, hBR, hU, hO⟩ := hrel
    obtain ⟨oa, ca, rfl⟩ := rowForm hBR
    obtain ⟨k, rfl⟩ : ∃ m, k = m + 1 := ⟨k - 1, by omega⟩
    have hsz := hO.size
    cases hp : prn (byteAt s j)
    · obtain ⟨a1, a2, hA, hne, hS⟩ := stepBad s i j hz hi (by omega) hp
      have HRE : Hid (R = .bad (litF s i j)) := Lib.hid (by
        rw [← HF.out]
        unfold txtF
        rw [if_neg (by intro h; rw [h] at hp; revert hp; decide)]
        have e1 : litR s 34 i j = litBad s i j := by
          unfold litR
          rw [if_neg (by intro h; rw [h] at hp; revert hp; decide), if_pos (.inr hp)]
        rw [e1]; rfl)
      have HS := Lib.hid hS
      have HA := Lib.hid hA
      clear hA hS hp
      go_wp2_with (go_loud (first | (go_at_call 98; ((with_reducible refine (HS.out _ _ rfl).mono ?_); rintro r w1 ⟨rfl, hO1⟩; have hU1 := (hU.keep hO1).keep (uA_only w1 0 ⟨#[]⟩ ⟨#[]⟩ 0 0 a1 a2 ⟨#[]⟩); have hBR1 := (hBR.only hO1 (fun _ h => h.elim)).only (uA_only w1 0 ⟨#[]⟩ ⟨#[]⟩ 0 0 a1 a2 ⟨#[]⟩) (fun _ h => h.elim); obtain ⟨c0, c1, c2, c3, c4, c5, c6, c7, c8, c9, c10⟩ := hU1.cells; have z0 := hU1.fz 0; have z1 := hU1.fz 1; have z2 := hU1.fz 2; have z3 := hU1.fz 3; have z4 := hU1.fz 4; have z5 := hU1.fz 5; have z6 := hU1.fz 6; have z7 := hU1.fz 7; have z8 := hU1.fz 8; have z9 := hU1.fz 9; have z10 := hU1.fz 10))))
      rw [HRE.out]
      exact bodyPost_ret (v := uV 0 ⟨#[]⟩ ⟨#[]⟩ 0 0 a1 a2 ⟨#[]⟩) (by simp [results, Tryz.results68, go_sem, c0, c1, c2, c3, c4, c5, c6, c7, c8, c9, c10]) rfl ⟨TPost.lit rfl HA.out hi, own_set ((hO.trans hO1).trans (uA_only w1 _ _ _ _ _ _ _ _)) (Nat.le_refl _) _ _ _ _ _ _ _ _ _ _ _⟩
    · have HP := Lib.hid hp
      have hjl : j < s.size := byteAt_pos (by intro h; rw [h, prn_0] at hp; cases hp)
      obtain ⟨y, hy⟩ : ∃ y, byteAt s j = y := ⟨_, rfl⟩
      have hSy : (((s[j]'hjl).toNat : Nat) : Int) = y := by rw [← byteAt_lt hjl]; exact hy
      by_cases h34 : y = 34
      · have HRE : Hid (R = .ok ⟨7, nil8, ⟨l.toArray⟩, 0⟩ (j + 1)) := Lib.hid (by rw [← HF.out]; unfold txtF; rw [hy, if_pos h34])
        have ey : (y == 34) = true := by simp [h34]
        clear hp hy h34
        go_wp2_with (go_loud (first | (go_at_call 98; ((with_reducible refine (rstep_ok s _ j _ hz HP.out).mono ?_); rintro r w1 ⟨rfl, hO1⟩; have hU1 := (hU.keep hO1).keep (uA_only w1 0 ⟨#[]⟩ ⟨#[]⟩ 0 0 0 0 ⟨#[]⟩); have hBR1 := (hBR.only hO1 (fun _ h => h.elim)).only (uA_only w1 0 ⟨#[]⟩ ⟨#[]⟩ 0 0 0 0 ⟨#[]⟩) (fun _ h => h.elim); have hcv := conv_bytes hBR1; obtain ⟨c0, c1, c2, c3, c4, c5, c6, c7, c8, c9, c10⟩ := hU1.cells; have z0 := hU1.fz 0; have z1 := hU1.fz 1; have z2 := hU1.fz 2; have z3 := hU1.fz 3; have z4 := hU1.fz 4; have z5 := hU1.fz 5; have z6 := hU1.fz 6; have z7 := hU1.fz 7; have z8 := hU1.fz 8; have z9 := hU1.fz 9; have z10 := hU1.fz 10))))
        rw [HRE.out]
        exact bodyPost_ret (v := uV 7 ⟨#[]⟩ ⟨l.toArray⟩ 0 (j + 1 : Nat) 0 0 ⟨#[]⟩) (by simp [results, Tryz.results68, go_sem, c0, c1, c2, c3, c4, c5, c6, c7, c8, c9, c10]) rfl ⟨rfl, own_set ((hO.trans hO1).trans (uA_only w1 _ _ _ _ _ _ _ _)) (Nat.le_refl _) _ _ _ _ _ _ _ _ _ _ _⟩
      · have ey : (y == 34) = false := by simpa using h34
        have hlr : litR s 34 i j = charO s i j := litR_O (by rw [hy]; exact h34)
        have HFF : Hid ((match charO s i j with | .bad f => RR.bad f | .ok c e => if 200 < l.length + 1 then RR.bad (flt s 3 nil8 i) else txtF s i k e (l ++ [c.toNat.toUInt8])) = R) := Lib.hid (by
          rw [← HF.out]; conv => rhs; unfold txtF; rw [hy, if_neg h34, hlr]
          cases charO s i j <;> rfl)
        cases hc : charO s i j with
        | bad g =>
          have HRE : Hid (R = .bad g) := Lib.hid (by rw [← HFF.out, hc])
          have HCH := Lib.hid hc
          clear hp hy h34 hlr hc HFF
          go_wp2_with (go_loud (first | (go_at_call 98; ((with_reducible refine (rstep_ok s _ j _ hz HP.out).mono ?_); rintro r w1 ⟨rfl, hO1⟩; have hU1 := (hU.keep hO1).keep (uA_only w1 0 ⟨#[]⟩ ⟨#[]⟩ 0 0 0 0 ⟨#[]⟩); have hBR1 := (hBR.only hO1 (fun _ h => h.elim)).only (uA_only w1 0 ⟨#[]⟩ ⟨#[]⟩ 0 0 0 0 ⟨#[]⟩) (fun _ h => h.elim))) | (go_at_call 99; ((with_reducible refine (rchar_j s i j _ hz hi hj HCH.out _ _ rfl).mono ?_); rintro r w2 ⟨⟨code, a, rfl, hg, hcode, ha⟩, hO2⟩; have ecode : (code != 0) = true := (by simpa using hcode); have hU2 := (hU1.keep hO2).keep (uA_only w2 0 ⟨#[]⟩ ⟨#[]⟩ 0 0 code a ⟨#[]⟩); obtain ⟨c0, c1, c2, c3, c4, c5, c6, c7, c8, c9, c10⟩ := hU2.cells; have z0 := hU2.fz 0; have z1 := hU2.fz 1; have z2 := hU2.fz 2; have z3 := hU2.fz 3; have z4 := hU2.fz 4; have z5 := hU2.fz 5; have z6 := hU2.fz 6; have z7 := hU2.fz 7; have z8 := hU2.fz 8; have z9 := hU2.fz 9; have z10 := hU2.fz 10))))
          rw [HRE.out]
          exact bodyPost_ret (v := uV 0 ⟨#[]⟩ ⟨#[]⟩ 0 0 code a ⟨#[]⟩) (by simp [results, Tryz.results68, go_sem, c0, c1, c2, c3, c4, c5, c6, c7, c8, c9, c10]) rfl ⟨⟨code, a, ⟨#[]⟩, rfl, hg, hcode, ha⟩, own_set ((((hO.trans hO1).trans (uA_only w1 _ _ _ _ _ _ _ _)).trans hO2).trans (uA_only w2 _ _ _ _ _ _ _ _)) (Nat.le_refl _) _ _ _ _ _ _ _ _ _ _ _⟩
        | ok cz ez =>
          have hb := litR_ok (hlr.trans hc)
          obtain ⟨hb0, hb1, hc0, hc1⟩ := hb
          have HCH := Lib.hid hc
          have HF3 : Hid ((if 200 < l.length + 1 then RR.bad (flt s 3 nil8 i) else txtF s i k ez (l ++ [cz.toNat.toUInt8])) = R) := Lib.hid (by rw [← HFF.out, hc])
          clear hp hy h34 hlr hc HFF
          by_cases hlong : 200 < l.length + 1
          · have HRE : Hid (R = .bad (flt s 3 nil8 i)) := Lib.hid (by rw [← HF3.out, if_pos hlong])
            have el : ((l.length : Int) == 200) = true := by simp; omega
            go_wp2_with (go_loud (first | (go_at_call 98; ((with_reducible refine (rstep_ok s _ j _ hz HP.out).mono ?_); rintro r w1 ⟨rfl, hO1⟩; have hU1 := (hU.keep hO1).keep (uA_only w1 0 ⟨#[]⟩ ⟨#[]⟩ 0 0 0 0 ⟨#[]⟩); have hBR1 := (hBR.only hO1 (fun _ h => h.elim)).only (uA_only w1 0 ⟨#[]⟩ ⟨#[]⟩ 0 0 0 0 ⟨#[]⟩) (fun _ h => h.elim))) | (go_at_call 99; ((with_reducible refine (rchar_j s i j _ hz hi hj HCH.out _ _ rfl).mono ?_); rintro r w2 ⟨rfl, hO2⟩; have hU2 := (hU1.keep hO2).keep (uA_only w2 0 ⟨#[]⟩ ⟨#[]⟩ cz ez 0 0 ⟨#[]⟩))) | (go_at_call 70; ((with_reducible refine (rbad_p _ _ _ _).mono ?_); rintro r w3 ⟨rfl, hO3⟩; have hU3 := hU2.keep hO3; obtain ⟨c0, c1, c2, c3, c4, c5, c6, c7, c8, c9, c10⟩ := hU3.cells; have z0 := hU3.fz 0; have z1 := hU3.fz 1; have z2 := hU3.fz 2; have z3 := hU3.fz 3; have z4 := hU3.fz 4; have z5 := hU3.fz 5; have z6 := hU3.fz 6; have z7 := hU3.fz 7; have z8 := hU3.fz 8; have z9 := hU3.fz 9; have z10 := hU3.fz 10))))
            rw [HRE.out]
            exact bodyPost_ret (v := uV 0 ⟨#[]⟩ ⟨#[]⟩ 0 0 3 i ⟨#[]⟩) (by simp [results, Tryz.results68, go_sem, c0, c1, c2, c3, c4, c5, c6, c7, c8, c9, c10]) rfl ⟨TPost.bad' rfl (by decide) hi, own_set (((((hO.trans hO1).trans (uA_only w1 _ _ _ _ _ _ _ _)).trans hO2).trans (uA_only w2 _ _ _ _ _ _ _ _)).trans hO3) (Nat.le_refl _) _ _ _ _ _ _ _ _ _ _ _⟩
          · have HRE : Hid (txtF s i k ez (l ++ [cz.toNat.toUInt8]) = R) := Lib.hid (by rw [← HF3.out, if_neg hlong])
            have el : ((l.length : Int) == 200) = false := by simp; omega
            have hll' : l.length + 1 ≤ 200 := by omega
            have hKx : ∀ g, Value.ownBlock (.slice oa l.length ca) = some g → w.heap.size + 1 ≤ g := fun g hg => (World.ownsRow.lt hBR g hg).1
            have hKx2 : ∀ g, Value.ownBlock (.slice oa l.length ca) = some g → g < wr.heap.size := fun g hg => (World.ownsRow.lt hBR g hg).2
            clear hlong HF3
            go_wp2_with (go_loud (first | (go_at_call 98; ((with_reducible refine (rstep_ok s _ j _ hz HP.out).mono ?_); rintro r w1 ⟨rfl, hO1⟩; have hU1 := (hU.keep hO1).keep (uA_only w1 0 ⟨#[]⟩ ⟨#[]⟩ 0 0 0 0 ⟨#[]⟩); have hBR1 := (hBR.only hO1 (fun _ h => h.elim)).only (uA_only w1 0 ⟨#[]⟩ ⟨#[]⟩ 0 0 0 0 ⟨#[]⟩) (fun _ h => h.elim))) | (go_at_call 99; ((with_reducible refine (rchar_j s i j _ hz hi hj HCH.out _ _ rfl).mono ?_); rintro r w2 ⟨rfl, hO2⟩; have hU2 := (hU1.keep hO2).keep (uA_only w2 0 ⟨#[]⟩ ⟨#[]⟩ cz ez 0 0 ⟨#[]⟩); have hBR2 := (hBR1.only hO2 (fun _ h => h.elim)).only (uA_only w2 0 ⟨#[]⟩ ⟨#[]⟩ cz ez 0 0 ⟨#[]⟩) (fun _ h => h.elim); have hO5 := (((hO.trans hO1).trans (uA_only w1 _ _ _ _ _ _ _ _)).trans hO2).trans (uA_only w2 0 ⟨#[]⟩ ⟨#[]⟩ cz ez 0 0 ⟨#[]⟩); have hz5 := hO2.size; rw [uA_size] at hz5; have hz6 := hO1.size; have hz7 := uA_size w2 0 ⟨#[]⟩ ⟨#[]⟩ cz ez 0 0 ⟨#[]⟩; have hW2 := UX.new w2 0 ⟨#[]⟩ ⟨#[]⟩ cz ez 0 0 ⟨#[]⟩)) | (at_builtin; (refine wpList_append_own_at _ rfl _ _ 31 rfl (w.heap.size + 1) 5 u0 (.int .u8 0) 1 1 Tryz.underlying31 hu hu0 hu1 hu2 rfl (by decide) (.slice oa l.length ca) _ _ rfl (World.ownsRow.alloc hBR2 _) ⟨w2.heap.size + 1, 0, none⟩ 1 1 [.int .u8 cz] rfl rfl (by rw [← hz7]; exact cell_one_new _ _ _) (one_u8 cz) (by unfold maxLen; omega) (by omega) (by simp; omega) ?_); (intro v' w6 hown' hgrow hnn hob; clear hnn hob; obtain ⟨ob, cb, rfl⟩ := rowForm hown'; have hBR6 := BR.snoc hc0 hc1 hown'; clear hown'; have hO6 := (Only.of_below (K := fun i => w.heap.size + 1 ≤ i) ((Below.refl _ (uA w2 0 ⟨#[]⟩ ⟨#[]⟩ cz ez 0 0 ⟨#[]⟩)).alloc (Nat.le_refl _) (.cells #[.int .u8 cz] 5))).trans (Only.grown (K := fun i => w.heap.size + 1 ≤ i) hgrow (fun g hg => hKx g hg)); have hU6 := hU2.only hO6 (by omega); have hW6 := (hW2.keep (Only.of_below ((Below.refl _ (uA w2 0 ⟨#[]⟩ ⟨#[]⟩ cz ez 0 0 ⟨#[]⟩)).alloc (Nat.le_refl _) (.cells #[.int .u8 cz] 5)))).grown hgrow (fun hx => by have := hKx2 _ hx; omega); obtain ⟨c0, c1, c2, c3, c4, c5, c6, c7, c8, c9, c10⟩ := hW6.cells; have z0 := hW6.fz 0; have z1 := hW6.fz 1; have z2 := hW6.fz 2; have z3 := hW6.fz 3; have z4 := hW6.fz 4; have z5 := hW6.fz 5; have z6 := hW6.fz 6; have z7 := hW6.fz 7; have z8 := hW6.fz 8; have z9 := hW6.fz 9; have z10 := hW6.fz 10))))
            go_roundw
            case rel => exact ⟨k, ez, l ++ [cz.toNat.toUInt8], by omega, hb1, by go_num, HRE, by simp; omega, hBR6, hU6, hO5.then hO6 (fun i hi => .inr (by omega))⟩
            case measure => simp [intOf]; omega
end Go.Proofs.YtelichlplblboaaGreatDoor
