/-
  WALKS. The reference's lexer: literal characters.
-/
import Derived.Test.YtelichlplblboaaGreatDoorRl2
namespace Go.Proofs.YtelichlplblboaaGreatDoor
open Go.RowKit Go.Maps
/-- A literal character, whatever the quote. -/
def charO (s : ByteArray) (i0 i : Nat) : RR Int := if byteAt s i = 92 then escR s i0 (i + 1) else if prn (byteAt s i) = false then litBad s i0 i else .ok (byteAt s i) (i + 1)
theorem litR_O {s : ByteArray} {q : Int} {i0 i : Nat} (h : byteAt s i ≠ q) : litR s q i0 i = charO s i0 i := by
  unfold litR charO
  by_cases h1 : byteAt s i = 92
  · rw [if_pos h1, if_pos h1]
  · rw [if_neg h1, if_neg h1]
    by_cases h2 : prn (byteAt s i) = false
    · rw [if_pos (.inr h2), if_pos h2]
    · rw [if_neg (by rintro (e | e); exact h e; exact h2 e), if_neg h2]
def CPost (s : ByteArray) (o : RR Int) (e : Ending) : Prop := match o with
  | .ok c j => e = .returned (uV 0 ⟨#[]⟩ ⟨#[]⟩ c j 0 0 ⟨#[]⟩)
  | .bad g => ∃ (code : Int) (a : Nat), e = .returned (uV 0 ⟨#[]⟩ ⟨#[]⟩ 0 0 code a ⟨#[]⟩) ∧ g = flt s code nil8 a ∧ code ≠ 0 ∧ a ≤ s.size
theorem CPost.lit {s : ByteArray} {i0 i : Nat} {e : Ending} {a : Int × Nat} (h : e = .returned (uV 0 ⟨#[]⟩ ⟨#[]⟩ 0 0 a.1 a.2 ⟨#[]⟩)) (ha : litA s i0 i = a) (h0 : i0 ≤ s.size) : CPost s (litBad s i0 i) e :=
  ⟨_, _, h, by rw [litA_F, ha], by rw [← ha]; exact litA_ne s i0 i, by rw [← ha]; exact litA_le h0 i⟩
theorem rstep_okj (s : ByteArray) (fr : Int) (i : Nat) (j : Int) (w : World) (hj : j = (i : Int)) (hz : s.size ≤ 1000000) (hp : prn (byteAt s i) = true) :
    Calls Tryz.prog 98 #[.string s, .int .i64 fr, .int .i64 j] w fun e w' => e = .returned (uV 0 ⟨#[]⟩ ⟨#[]⟩ 0 0 0 0 ⟨#[]⟩) ∧ Only (fun _ => False) w w' := by
  subst hj; exact rstep_ok s fr i w hz hp
theorem rstep_badj (s : ByteArray) (fr i : Nat) (j : Int) (A : Int × Nat) (w : World) (hj : j = (i : Int)) (hz : s.size ≤ 1000000) (hf : fr ≤ 1000000) (hi2 : i ≤ 2000000) (hp : prn (byteAt s i) = false) (hA : litA s fr i = A) :
    Calls Tryz.prog 98 #[.string s, .int .i64 fr, .int .i64 j] w fun e w' => e = .returned (uV 0 ⟨#[]⟩ ⟨#[]⟩ 0 0 A.1 A.2 ⟨#[]⟩) ∧ Only (fun _ => False) w w' := by
  subst hj hA; exact rstep_bad s fr i w hz hf hi2 hp
theorem prn_92 : prn 92 = true := by decide
theorem hexV_prn {c d : Int} (h : hexV c = some d) : prn c = true := by
  have : ∀ c : Int, hexV c ≠ none → prn c = true := by
    intro c hc
    unfold hexV at hc
    unfold prn
    by_cases h1 : dg c = true
    · have := dg_bd h1; simp; omega
    · rw [if_neg h1] at hc
      by_cases h2 : 97 ≤ c ∧ c ≤ 102
      · simp; omega
      · rw [if_neg h2] at hc
        by_cases h3 : 65 ≤ c ∧ c ≤ 70
        · simp; omega
        · rw [if_neg h3] at hc; exact absurd rfl hc
  exact this c (by rw [h]; simp)
set_option maxRecDepth 100000 in
set_option maxHeartbeats 2000000 in
theorem rchar_1 (s : ByteArray) (fr i : Nat) (w : World) (hz : s.size ≤ 1000000) (hf : fr ≤ s.size) (hi : i ≤ 1000000) (hp : prn (byteAt s i) = false) :
    Calls Tryz.prog 99 #[.string s, .int .i64 fr, .int .i64 i] w fun e w' => e = .returned (uV 0 ⟨#[]⟩ ⟨#[]⟩ 0 0 (litA s fr i).1 (litA s fr i).2 ⟨#[]⟩) ∧ Only (fun _ => False) w w' := by
  obtain ⟨A, hA⟩ : ∃ A, litA s fr i = A := ⟨_, rfl⟩
  have hne : (A.1 != 0) = true := by have := litA_ne s fr i; rw [hA] at this; simpa using this
  have HS : Hid (∀ w, Calls Tryz.prog 98 #[.string s, .int .i64 fr, .int .i64 i] w fun e w' => e = .returned (uV 0 ⟨#[]⟩ ⟨#[]⟩ 0 0 A.1 A.2 ⟨#[]⟩) ∧ Only (fun _ => False) w w') := Lib.hid (fun w => hA ▸ rstep_bad s fr i w hz (by omega) (by omega) hp)
  obtain ⟨a1, a2⟩ := A
  rw [hA]
  clear hA hp
  go_enter Tryz.func99, Tryz.ntmps99
  go_wp2_with (go_loud (first | (go_at_call 98; ((with_reducible refine (HS.out _).mono ?_); rintro e w1 ⟨rfl, hO1⟩; have hU1 := ((UX.new w 0 ⟨#[]⟩ ⟨#[]⟩ 0 0 0 0 ⟨#[]⟩).keep hO1).keep (uA_only w1 0 ⟨#[]⟩ ⟨#[]⟩ 0 0 a1 a2 ⟨#[]⟩); obtain ⟨c0, c1, c2, c3, c4, c5, c6, c7, c8, c9, c10⟩ := hU1.cells; have z0 := hU1.fz 0; have z1 := hU1.fz 1; have z2 := hU1.fz 2; have z3 := hU1.fz 3; have z4 := hU1.fz 4; have z5 := hU1.fz 5; have z6 := hU1.fz 6; have z7 := hU1.fz 7; have z8 := hU1.fz 8; have z9 := hU1.fz 9; have z10 := hU1.fz 10))))
  exact bodyPost_ret (v := uV 0 ⟨#[]⟩ ⟨#[]⟩ 0 0 a1 a2 ⟨#[]⟩) (by simp [results, Tryz.results99, go_sem, c0, c1, c2, c3, c4, c5, c6, c7, c8, c9, c10]) rfl ⟨rfl, own_set (((uA_only w _ _ _ _ _ _ _ _).trans hO1).trans (uA_only w1 _ _ _ _ _ _ _ _)) (Nat.le_refl _) _ _ _ _ _ _ _ _ _ _ _⟩
set_option maxRecDepth 100000 in
set_option maxHeartbeats 2000000 in
theorem rchar_2 (s : ByteArray) (fr i : Nat) (w : World) (hz : s.size ≤ 1000000) (hf : fr ≤ s.size) (hp : prn (byteAt s i) = true) (h92 : byteAt s i ≠ 92) :
    Calls Tryz.prog 99 #[.string s, .int .i64 fr, .int .i64 i] w fun e w' => e = .returned (uV 0 ⟨#[]⟩ ⟨#[]⟩ (byteAt s i) (i + 1 : Nat) 0 0 ⟨#[]⟩) ∧ Only (fun _ => False) w w' := by
  have hi : i < s.size := byteAt_pos (by intro h; rw [h, prn_0] at hp; cases hp)
  have HP := Lib.hid hp
  obtain ⟨y, hy⟩ : ∃ y, byteAt s i = y := ⟨_, rfl⟩
  have hyb := byteAt_bd s i
  rw [hy] at hyb
  have hSy : (((s[i]'hi).toNat : Nat) : Int) = y := by rw [← byteAt_lt hi]; exact hy
  have e92 : (y != 92) = true := by rw [← hy]; simpa using h92
  rw [hy]
  clear hp hy h92
  go_enter Tryz.func99, Tryz.ntmps99
  go_wp2_with (go_loud (first | (go_at_call 98; ((with_reducible refine (rstep_ok s _ i _ hz HP.out).mono ?_); rintro e w1 ⟨rfl, hO1⟩; have hU1 := ((UX.new w 0 ⟨#[]⟩ ⟨#[]⟩ 0 0 0 0 ⟨#[]⟩).keep hO1).keep (uA_only w1 0 ⟨#[]⟩ ⟨#[]⟩ 0 0 0 0 ⟨#[]⟩); obtain ⟨c0, c1, c2, c3, c4, c5, c6, c7, c8, c9, c10⟩ := hU1.cells; have z0 := hU1.fz 0; have z1 := hU1.fz 1; have z2 := hU1.fz 2; have z3 := hU1.fz 3; have z4 := hU1.fz 4; have z5 := hU1.fz 5; have z6 := hU1.fz 6; have z7 := hU1.fz 7; have z8 := hU1.fz 8; have z9 := hU1.fz 9; have z10 := hU1.fz 10))))
  exact bodyPost_ret (v := uV 0 ⟨#[]⟩ ⟨#[]⟩ y (i + 1 : Nat) 0 0 ⟨#[]⟩) (by simp [results, Tryz.results99, go_sem, c0, c1, c2, c3, c4, c5, c6, c7, c8, c9, c10]) rfl ⟨rfl, own_set (((uA_only w _ _ _ _ _ _ _ _).trans hO1).trans (uA_only w1 _ _ _ _ _ _ _ _)) (Nat.le_refl _) _ _ _ _ _ _ _ _ _ _ _⟩
set_option maxRecDepth 100000 in
set_option maxHeartbeats 2000000 in
theorem rchar_3 (s : ByteArray) (fr i : Nat) (w : World) (hz : s.size ≤ 1000000) (hf : fr ≤ s.size) (h92 : byteAt s i = 92) (hp : prn (byteAt s (i + 1)) = false) :
    Calls Tryz.prog 99 #[.string s, .int .i64 fr, .int .i64 i] w fun e w' => e = .returned (uV 0 ⟨#[]⟩ ⟨#[]⟩ 0 0 (litA s fr (i + 1)).1 (litA s fr (i + 1)).2 ⟨#[]⟩) ∧ Only (fun _ => False) w w' := by
  have hi : i < s.size := byteAt_pos (by omega)
  have HP : Hid (prn (byteAt s i) = true) := Lib.hid (by rw [h92]; exact prn_92)
  have hSy : (((s[i]'hi).toNat : Nat) : Int) = 92 := by rw [← byteAt_lt hi]; exact h92
  obtain ⟨A, hA⟩ : ∃ A, litA s fr (i + 1) = A := ⟨_, rfl⟩
  have hne : (A.1 != 0) = true := by have := litA_ne s fr (i + 1); rw [hA] at this; simpa using this
  have HS : Hid (∀ w, Calls Tryz.prog 98 #[.string s, .int .i64 fr, .int .i64 (i + 1)] w fun e w' => e = .returned (uV 0 ⟨#[]⟩ ⟨#[]⟩ 0 0 A.1 A.2 ⟨#[]⟩) ∧ Only (fun _ => False) w w') := Lib.hid (fun w => hA ▸ rstep_bad s fr (i + 1) w hz (by omega) (by omega) hp)
  obtain ⟨a1, a2⟩ := A
  rw [hA]
  clear hA hp h92
  go_enter Tryz.func99, Tryz.ntmps99
  go_wp2_with (go_loud (first | (go_at_call 98; ((with_reducible refine (rstep_ok s _ i _ hz HP.out).mono ?_); rintro e w1 ⟨rfl, hO1⟩; have hU1 := ((UX.new w 0 ⟨#[]⟩ ⟨#[]⟩ 0 0 0 0 ⟨#[]⟩).keep hO1).keep (uA_only w1 0 ⟨#[]⟩ ⟨#[]⟩ 0 0 0 0 ⟨#[]⟩); have hV1 := UX.new w1 0 ⟨#[]⟩ ⟨#[]⟩ 0 0 0 0 ⟨#[]⟩)) | (go_at_call 98; ((with_reducible refine (HS.out _).mono ?_); rintro e w2 ⟨rfl, hO2⟩; have hV2 := hV1.keep hO2; have hU2 := (hU1.keep hO2).only (Only.set11 w2 w1.heap.size (.int .i64 0) (.string ⟨#[]⟩) (.string ⟨#[]⟩) (.int .i64 0) (.bool false) (.int .i64 0) (.int .i64 0) (.int .i64 0) (.int .i64 a1) (.int .i64 a2) (.string ⟨#[]⟩)) (by have := hO1.size; rw [uA_size] at this; omega); obtain ⟨c0, c1, c2, c3, c4, c5, c6, c7, c8, c9, c10⟩ := hU2.cells; have z0 := hU2.fz 0; have z1 := hU2.fz 1; have z2 := hU2.fz 2; have z3 := hU2.fz 3; have z4 := hU2.fz 4; have z5 := hU2.fz 5; have z6 := hU2.fz 6; have z7 := hU2.fz 7; have z8 := hU2.fz 8; have z9 := hU2.fz 9; have z10 := hU2.fz 10; obtain ⟨d0, d1, d2, d3, d4, d5, d6, d7, d8, d9, d10⟩ := hV2.cells; have y0 := hV2.fz 0; have y1 := hV2.fz 1; have y2 := hV2.fz 2; have y3 := hV2.fz 3; have y4 := hV2.fz 4; have y5 := hV2.fz 5; have y6 := hV2.fz 6; have y7 := hV2.fz 7; have y8 := hV2.fz 8; have y9 := hV2.fz 9; have y10 := hV2.fz 10))))
  exact bodyPost_ret (v := uV 0 ⟨#[]⟩ ⟨#[]⟩ 0 0 a1 a2 ⟨#[]⟩) (by simp [results, Tryz.results99, go_sem, c0, c1, c2, c3, c4, c5, c6, c7, c8, c9, c10]) rfl ⟨rfl, own_set ((own_set (((((uA_only w _ _ _ _ _ _ _ _).trans hO1).trans (uA_only w1 _ _ _ _ _ _ _ _)).trans hO2)) (by have := hO1.size; rw [uA_size] at this; omega) _ _ _ _ _ _ _ _ _ _ _)) (Nat.le_refl _) _ _ _ _ _ _ _ _ _ _ _⟩
set_option maxRecDepth 100000 in
set_option maxHeartbeats 2000000 in
theorem rchar_n (s : ByteArray) (fr i : Nat) (w : World) (hz : s.size ≤ 1000000) (hf : fr ≤ s.size) (h92 : byteAt s i = 92) (he : byteAt s (i + 1) = 110) :
    Calls Tryz.prog 99 #[.string s, .int .i64 fr, .int .i64 i] w fun e w' => e = .returned (uV 0 ⟨#[]⟩ ⟨#[]⟩ 10 (i + 2 : Nat) 0 0 ⟨#[]⟩) ∧ Only (fun _ => False) w w' := by
  have hi : i < s.size := byteAt_pos (by omega)
  have HP : Hid (prn (byteAt s i) = true) := Lib.hid (by rw [h92]; exact prn_92)
  have hSy : (((s[i]'hi).toNat : Nat) : Int) = 92 := by rw [← byteAt_lt hi]; exact h92
  have hi2 : i + 1 < s.size := byteAt_pos (by omega)
  have HP2 : Hid (prn (byteAt s (i + 1)) = true) := Lib.hid (by unfold prn; simp; omega)
  obtain ⟨y, hy⟩ : ∃ y, byteAt s (i + 1) = y := ⟨_, rfl⟩
  have hyb := byteAt_bd s (i + 1)
  rw [hy] at he hyb
  have hSy2 : (((s[i + 1]'hi2).toNat : Nat) : Int) = y := by rw [← byteAt_lt hi2]; exact hy
  subst he
  clear hy h92
  go_enter Tryz.func99, Tryz.ntmps99
  go_wp2_with (go_loud (first | (go_at_call 98; ((with_reducible refine (rstep_ok s _ i _ hz HP.out).mono ?_); rintro e w1 ⟨rfl, hO1⟩; have hU1 := ((UX.new w 0 ⟨#[]⟩ ⟨#[]⟩ 0 0 0 0 ⟨#[]⟩).keep hO1).keep (uA_only w1 0 ⟨#[]⟩ ⟨#[]⟩ 0 0 0 0 ⟨#[]⟩); have hV1 := UX.new w1 0 ⟨#[]⟩ ⟨#[]⟩ 0 0 0 0 ⟨#[]⟩)) | (go_at_call 98; ((with_reducible refine (rstep_okj s _ (i + 1) _ _ (by omega) hz HP2.out).mono ?_); rintro e w2 ⟨rfl, hO2⟩; have hV2 := hV1.keep hO2; have hU2 := (hU1.keep hO2).only (Only.set11 w2 w1.heap.size (.int .i64 0) (.string ⟨#[]⟩) (.string ⟨#[]⟩) (.int .i64 0) (.bool false) (.int .i64 0) (.int .i64 0) (.int .i64 0) (.int .i64 0) (.int .i64 0) (.string ⟨#[]⟩)) (by have := hO1.size; rw [uA_size] at this; omega); obtain ⟨c0, c1, c2, c3, c4, c5, c6, c7, c8, c9, c10⟩ := hU2.cells; have z0 := hU2.fz 0; have z1 := hU2.fz 1; have z2 := hU2.fz 2; have z3 := hU2.fz 3; have z4 := hU2.fz 4; have z5 := hU2.fz 5; have z6 := hU2.fz 6; have z7 := hU2.fz 7; have z8 := hU2.fz 8; have z9 := hU2.fz 9; have z10 := hU2.fz 10; obtain ⟨d0, d1, d2, d3, d4, d5, d6, d7, d8, d9, d10⟩ := hV2.cells; have y0 := hV2.fz 0; have y1 := hV2.fz 1; have y2 := hV2.fz 2; have y3 := hV2.fz 3; have y4 := hV2.fz 4; have y5 := hV2.fz 5; have y6 := hV2.fz 6; have y7 := hV2.fz 7; have y8 := hV2.fz 8; have y9 := hV2.fz 9; have y10 := hV2.fz 10))))
  exact bodyPost_ret (v := uV 0 ⟨#[]⟩ ⟨#[]⟩ 10 (i + 2 : Nat) 0 0 ⟨#[]⟩) (by simp [results, Tryz.results99, go_sem, c0, c1, c2, c3, c4, c5, c6, c7, c8, c9, c10]) rfl ⟨rfl, own_set ((own_set (((((uA_only w _ _ _ _ _ _ _ _).trans hO1).trans (uA_only w1 _ _ _ _ _ _ _ _)).trans hO2)) (by have := hO1.size; rw [uA_size] at this; omega) _ _ _ _ _ _ _ _ _ _ _)) (Nat.le_refl _) _ _ _ _ _ _ _ _ _ _ _⟩
set_option maxRecDepth 100000 in
set_option maxHeartbeats 2000000 in
theorem rchar_t (s : ByteArray) (fr i : Nat) (w : World) (hz : s.size ≤ 1000000) (hf : fr ≤ s.size) (h92 : byteAt s i = 92) (he : byteAt s (i + 1) = 116) :
    Calls Tryz.prog 99 #[.string s, .int .i64 fr, .int .i64 i] w fun e w' => e = .returned (uV 0 ⟨#[]⟩ ⟨#[]⟩ 9 (i + 2 : Nat) 0 0 ⟨#[]⟩) ∧ Only (fun _ => False) w w' := by
  have hi : i < s.size := byteAt_pos (by omega)
  have HP : Hid (prn (byteAt s i) = true) := Lib.hid (by rw [h92]; exact prn_92)
  have hSy : (((s[i]'hi).toNat : Nat) : Int) = 92 := by rw [← byteAt_lt hi]; exact h92
  have hi2 : i + 1 < s.size := byteAt_pos (by omega)
  have HP2 : Hid (prn (byteAt s (i + 1)) = true) := Lib.hid (by unfold prn; simp; omega)
  obtain ⟨y, hy⟩ : ∃ y, byteAt s (i + 1) = y := ⟨_, rfl⟩
  have hyb := byteAt_bd s (i + 1)
  rw [hy] at he hyb
  have hSy2 : (((s[i + 1]'hi2).toNat : Nat) : Int) = y := by rw [← byteAt_lt hi2]; exact hy
  subst he
  clear hy h92
  go_enter Tryz.func99, Tryz.ntmps99
  go_wp2_with (go_loud (first | (go_at_call 98; ((with_reducible refine (rstep_ok s _ i _ hz HP.out).mono ?_); rintro e w1 ⟨rfl, hO1⟩; have hU1 := ((UX.new w 0 ⟨#[]⟩ ⟨#[]⟩ 0 0 0 0 ⟨#[]⟩).keep hO1).keep (uA_only w1 0 ⟨#[]⟩ ⟨#[]⟩ 0 0 0 0 ⟨#[]⟩); have hV1 := UX.new w1 0 ⟨#[]⟩ ⟨#[]⟩ 0 0 0 0 ⟨#[]⟩)) | (go_at_call 98; ((with_reducible refine (rstep_okj s _ (i + 1) _ _ (by omega) hz HP2.out).mono ?_); rintro e w2 ⟨rfl, hO2⟩; have hV2 := hV1.keep hO2; have hU2 := (hU1.keep hO2).only (Only.set11 w2 w1.heap.size (.int .i64 0) (.string ⟨#[]⟩) (.string ⟨#[]⟩) (.int .i64 0) (.bool false) (.int .i64 0) (.int .i64 0) (.int .i64 0) (.int .i64 0) (.int .i64 0) (.string ⟨#[]⟩)) (by have := hO1.size; rw [uA_size] at this; omega); obtain ⟨c0, c1, c2, c3, c4, c5, c6, c7, c8, c9, c10⟩ := hU2.cells; have z0 := hU2.fz 0; have z1 := hU2.fz 1; have z2 := hU2.fz 2; have z3 := hU2.fz 3; have z4 := hU2.fz 4; have z5 := hU2.fz 5; have z6 := hU2.fz 6; have z7 := hU2.fz 7; have z8 := hU2.fz 8; have z9 := hU2.fz 9; have z10 := hU2.fz 10; obtain ⟨d0, d1, d2, d3, d4, d5, d6, d7, d8, d9, d10⟩ := hV2.cells; have y0 := hV2.fz 0; have y1 := hV2.fz 1; have y2 := hV2.fz 2; have y3 := hV2.fz 3; have y4 := hV2.fz 4; have y5 := hV2.fz 5; have y6 := hV2.fz 6; have y7 := hV2.fz 7; have y8 := hV2.fz 8; have y9 := hV2.fz 9; have y10 := hV2.fz 10))))
  exact bodyPost_ret (v := uV 0 ⟨#[]⟩ ⟨#[]⟩ 9 (i + 2 : Nat) 0 0 ⟨#[]⟩) (by simp [results, Tryz.results99, go_sem, c0, c1, c2, c3, c4, c5, c6, c7, c8, c9, c10]) rfl ⟨rfl, own_set ((own_set (((((uA_only w _ _ _ _ _ _ _ _).trans hO1).trans (uA_only w1 _ _ _ _ _ _ _ _)).trans hO2)) (by have := hO1.size; rw [uA_size] at this; omega) _ _ _ _ _ _ _ _ _ _ _)) (Nat.le_refl _) _ _ _ _ _ _ _ _ _ _ _⟩
set_option maxRecDepth 100000 in
set_option maxHeartbeats 2000000 in
theorem rchar_a (s : ByteArray) (fr i : Nat) (w : World) (hz : s.size ≤ 1000000) (hf : fr ≤ s.size) (h92 : byteAt s i = 92) (he : byteAt s (i + 1) = 92) :
    Calls Tryz.prog 99 #[.string s, .int .i64 fr, .int .i64 i] w fun e w' => e = .returned (uV 0 ⟨#[]⟩ ⟨#[]⟩ 92 (i + 2 : Nat) 0 0 ⟨#[]⟩) ∧ Only (fun _ => False) w w' := by
  have hi : i < s.size := byteAt_pos (by omega)
  have HP : Hid (prn (byteAt s i) = true) := Lib.hid (by rw [h92]; exact prn_92)
  have hSy : (((s[i]'hi).toNat : Nat) : Int) = 92 := by rw [← byteAt_lt hi]; exact h92
  have hi2 : i + 1 < s.size := byteAt_pos (by omega)
  have HP2 : Hid (prn (byteAt s (i + 1)) = true) := Lib.hid (by unfold prn; simp; omega)
  obtain ⟨y, hy⟩ : ∃ y, byteAt s (i + 1) = y := ⟨_, rfl⟩
  have hyb := byteAt_bd s (i + 1)
  rw [hy] at he hyb
  have hSy2 : (((s[i + 1]'hi2).toNat : Nat) : Int) = y := by rw [← byteAt_lt hi2]; exact hy
  subst he
  clear hy h92
  go_enter Tryz.func99, Tryz.ntmps99
  go_wp2_with (go_loud (first | (go_at_call 98; ((with_reducible refine (rstep_ok s _ i _ hz HP.out).mono ?_); rintro e w1 ⟨rfl, hO1⟩; have hU1 := ((UX.new w 0 ⟨#[]⟩ ⟨#[]⟩ 0 0 0 0 ⟨#[]⟩).keep hO1).keep (uA_only w1 0 ⟨#[]⟩ ⟨#[]⟩ 0 0 0 0 ⟨#[]⟩); have hV1 := UX.new w1 0 ⟨#[]⟩ ⟨#[]⟩ 0 0 0 0 ⟨#[]⟩)) | (go_at_call 98; ((with_reducible refine (rstep_okj s _ (i + 1) _ _ (by omega) hz HP2.out).mono ?_); rintro e w2 ⟨rfl, hO2⟩; have hV2 := hV1.keep hO2; have hU2 := (hU1.keep hO2).only (Only.set11 w2 w1.heap.size (.int .i64 0) (.string ⟨#[]⟩) (.string ⟨#[]⟩) (.int .i64 0) (.bool false) (.int .i64 0) (.int .i64 0) (.int .i64 0) (.int .i64 0) (.int .i64 0) (.string ⟨#[]⟩)) (by have := hO1.size; rw [uA_size] at this; omega); obtain ⟨c0, c1, c2, c3, c4, c5, c6, c7, c8, c9, c10⟩ := hU2.cells; have z0 := hU2.fz 0; have z1 := hU2.fz 1; have z2 := hU2.fz 2; have z3 := hU2.fz 3; have z4 := hU2.fz 4; have z5 := hU2.fz 5; have z6 := hU2.fz 6; have z7 := hU2.fz 7; have z8 := hU2.fz 8; have z9 := hU2.fz 9; have z10 := hU2.fz 10; obtain ⟨d0, d1, d2, d3, d4, d5, d6, d7, d8, d9, d10⟩ := hV2.cells; have y0 := hV2.fz 0; have y1 := hV2.fz 1; have y2 := hV2.fz 2; have y3 := hV2.fz 3; have y4 := hV2.fz 4; have y5 := hV2.fz 5; have y6 := hV2.fz 6; have y7 := hV2.fz 7; have y8 := hV2.fz 8; have y9 := hV2.fz 9; have y10 := hV2.fz 10))))
  exact bodyPost_ret (v := uV 0 ⟨#[]⟩ ⟨#[]⟩ 92 (i + 2 : Nat) 0 0 ⟨#[]⟩) (by simp [results, Tryz.results99, go_sem, c0, c1, c2, c3, c4, c5, c6, c7, c8, c9, c10]) rfl ⟨rfl, own_set ((own_set (((((uA_only w _ _ _ _ _ _ _ _).trans hO1).trans (uA_only w1 _ _ _ _ _ _ _ _)).trans hO2)) (by have := hO1.size; rw [uA_size] at this; omega) _ _ _ _ _ _ _ _ _ _ _)) (Nat.le_refl _) _ _ _ _ _ _ _ _ _ _ _⟩
set_option maxRecDepth 100000 in
set_option maxHeartbeats 2000000 in
theorem rchar_b (s : ByteArray) (fr i : Nat) (w : World) (hz : s.size ≤ 1000000) (hf : fr ≤ s.size) (h92 : byteAt s i = 92) (he : byteAt s (i + 1) = 39) :
    Calls Tryz.prog 99 #[.string s, .int .i64 fr, .int .i64 i] w fun e w' => e = .returned (uV 0 ⟨#[]⟩ ⟨#[]⟩ 39 (i + 2 : Nat) 0 0 ⟨#[]⟩) ∧ Only (fun _ => False) w w' := by
  have hi : i < s.size := byteAt_pos (by omega)
  have HP : Hid (prn (byteAt s i) = true) := Lib.hid (by rw [h92]; exact prn_92)
  have hSy : (((s[i]'hi).toNat : Nat) : Int) = 92 := by rw [← byteAt_lt hi]; exact h92
  have hi2 : i + 1 < s.size := byteAt_pos (by omega)
  have HP2 : Hid (prn (byteAt s (i + 1)) = true) := Lib.hid (by unfold prn; simp; omega)
  obtain ⟨y, hy⟩ : ∃ y, byteAt s (i + 1) = y := ⟨_, rfl⟩
  have hyb := byteAt_bd s (i + 1)
  rw [hy] at he hyb
  have hSy2 : (((s[i + 1]'hi2).toNat : Nat) : Int) = y := by rw [← byteAt_lt hi2]; exact hy
  subst he
  clear hy h92
  go_enter Tryz.func99, Tryz.ntmps99
  go_wp2_with (go_loud (first | (go_at_call 98; ((with_reducible refine (rstep_ok s _ i _ hz HP.out).mono ?_); rintro e w1 ⟨rfl, hO1⟩; have hU1 := ((UX.new w 0 ⟨#[]⟩ ⟨#[]⟩ 0 0 0 0 ⟨#[]⟩).keep hO1).keep (uA_only w1 0 ⟨#[]⟩ ⟨#[]⟩ 0 0 0 0 ⟨#[]⟩); have hV1 := UX.new w1 0 ⟨#[]⟩ ⟨#[]⟩ 0 0 0 0 ⟨#[]⟩)) | (go_at_call 98; ((with_reducible refine (rstep_okj s _ (i + 1) _ _ (by omega) hz HP2.out).mono ?_); rintro e w2 ⟨rfl, hO2⟩; have hV2 := hV1.keep hO2; have hU2 := (hU1.keep hO2).only (Only.set11 w2 w1.heap.size (.int .i64 0) (.string ⟨#[]⟩) (.string ⟨#[]⟩) (.int .i64 0) (.bool false) (.int .i64 0) (.int .i64 0) (.int .i64 0) (.int .i64 0) (.int .i64 0) (.string ⟨#[]⟩)) (by have := hO1.size; rw [uA_size] at this; omega); obtain ⟨c0, c1, c2, c3, c4, c5, c6, c7, c8, c9, c10⟩ := hU2.cells; have z0 := hU2.fz 0; have z1 := hU2.fz 1; have z2 := hU2.fz 2; have z3 := hU2.fz 3; have z4 := hU2.fz 4; have z5 := hU2.fz 5; have z6 := hU2.fz 6; have z7 := hU2.fz 7; have z8 := hU2.fz 8; have z9 := hU2.fz 9; have z10 := hU2.fz 10; obtain ⟨d0, d1, d2, d3, d4, d5, d6, d7, d8, d9, d10⟩ := hV2.cells; have y0 := hV2.fz 0; have y1 := hV2.fz 1; have y2 := hV2.fz 2; have y3 := hV2.fz 3; have y4 := hV2.fz 4; have y5 := hV2.fz 5; have y6 := hV2.fz 6; have y7 := hV2.fz 7; have y8 := hV2.fz 8; have y9 := hV2.fz 9; have y10 := hV2.fz 10))))
  exact bodyPost_ret (v := uV 0 ⟨#[]⟩ ⟨#[]⟩ 39 (i + 2 : Nat) 0 0 ⟨#[]⟩) (by simp [results, Tryz.results99, go_sem, c0, c1, c2, c3, c4, c5, c6, c7, c8, c9, c10]) rfl ⟨rfl, own_set ((own_set (((((uA_only w _ _ _ _ _ _ _ _).trans hO1).trans (uA_only w1 _ _ _ _ _ _ _ _)).trans hO2)) (by have := hO1.size; rw [uA_size] at this; omega) _ _ _ _ _ _ _ _ _ _ _)) (Nat.le_refl _) _ _ _ _ _ _ _ _ _ _ _⟩
set_option maxRecDepth 100000 in
set_option maxHeartbeats 2000000 in
theorem rchar_c (s : ByteArray) (fr i : Nat) (w : World) (hz : s.size ≤ 1000000) (hf : fr ≤ s.size) (h92 : byteAt s i = 92) (he : byteAt s (i + 1) = 34) :
    Calls Tryz.prog 99 #[.string s, .int .i64 fr, .int .i64 i] w fun e w' => e = .returned (uV 0 ⟨#[]⟩ ⟨#[]⟩ 34 (i + 2 : Nat) 0 0 ⟨#[]⟩) ∧ Only (fun _ => False) w w' := by
  have hi : i < s.size := byteAt_pos (by omega)
  have HP : Hid (prn (byteAt s i) = true) := Lib.hid (by rw [h92]; exact prn_92)
  have hSy : (((s[i]'hi).toNat : Nat) : Int) = 92 := by rw [← byteAt_lt hi]; exact h92
  have hi2 : i + 1 < s.size := byteAt_pos (by omega)
  have HP2 : Hid (prn (byteAt s (i + 1)) = true) := Lib.hid (by unfold prn; simp; omega)
  obtain ⟨y, hy⟩ : ∃ y, byteAt s (i + 1) = y := ⟨_, rfl⟩
  have hyb := byteAt_bd s (i + 1)
  rw [hy] at he hyb
  have hSy2 : (((s[i + 1]'hi2).toNat : Nat) : Int) = y := by rw [← byteAt_lt hi2]; exact hy
  subst he
  clear hy h92
  go_enter Tryz.func99, Tryz.ntmps99
  go_wp2_with (go_loud (first | (go_at_call 98; ((with_reducible refine (rstep_ok s _ i _ hz HP.out).mono ?_); rintro e w1 ⟨rfl, hO1⟩; have hU1 := ((UX.new w 0 ⟨#[]⟩ ⟨#[]⟩ 0 0 0 0 ⟨#[]⟩).keep hO1).keep (uA_only w1 0 ⟨#[]⟩ ⟨#[]⟩ 0 0 0 0 ⟨#[]⟩); have hV1 := UX.new w1 0 ⟨#[]⟩ ⟨#[]⟩ 0 0 0 0 ⟨#[]⟩)) | (go_at_call 98; ((with_reducible refine (rstep_okj s _ (i + 1) _ _ (by omega) hz HP2.out).mono ?_); rintro e w2 ⟨rfl, hO2⟩; have hV2 := hV1.keep hO2; have hU2 := (hU1.keep hO2).only (Only.set11 w2 w1.heap.size (.int .i64 0) (.string ⟨#[]⟩) (.string ⟨#[]⟩) (.int .i64 0) (.bool false) (.int .i64 0) (.int .i64 0) (.int .i64 0) (.int .i64 0) (.int .i64 0) (.string ⟨#[]⟩)) (by have := hO1.size; rw [uA_size] at this; omega); obtain ⟨c0, c1, c2, c3, c4, c5, c6, c7, c8, c9, c10⟩ := hU2.cells; have z0 := hU2.fz 0; have z1 := hU2.fz 1; have z2 := hU2.fz 2; have z3 := hU2.fz 3; have z4 := hU2.fz 4; have z5 := hU2.fz 5; have z6 := hU2.fz 6; have z7 := hU2.fz 7; have z8 := hU2.fz 8; have z9 := hU2.fz 9; have z10 := hU2.fz 10; obtain ⟨d0, d1, d2, d3, d4, d5, d6, d7, d8, d9, d10⟩ := hV2.cells; have y0 := hV2.fz 0; have y1 := hV2.fz 1; have y2 := hV2.fz 2; have y3 := hV2.fz 3; have y4 := hV2.fz 4; have y5 := hV2.fz 5; have y6 := hV2.fz 6; have y7 := hV2.fz 7; have y8 := hV2.fz 8; have y9 := hV2.fz 9; have y10 := hV2.fz 10))))
  exact bodyPost_ret (v := uV 0 ⟨#[]⟩ ⟨#[]⟩ 34 (i + 2 : Nat) 0 0 ⟨#[]⟩) (by simp [results, Tryz.results99, go_sem, c0, c1, c2, c3, c4, c5, c6, c7, c8, c9, c10]) rfl ⟨rfl, own_set ((own_set (((((uA_only w _ _ _ _ _ _ _ _).trans hO1).trans (uA_only w1 _ _ _ _ _ _ _ _)).trans hO2)) (by have := hO1.size; rw [uA_size] at this; omega) _ _ _ _ _ _ _ _ _ _ _)) (Nat.le_refl _) _ _ _ _ _ _ _ _ _ _ _⟩
set_option maxRecDepth 100000 in
set_option maxHeartbeats 2000000 in
theorem rchar_6 (s : ByteArray) (fr i : Nat) (w : World) (hz : s.size ≤ 1000000) (hf : fr ≤ s.size) (h92 : byteAt s i = 92) (hp : prn (byteAt s (i + 1)) = true) (n1 : byteAt s (i + 1) ≠ 110) (n2 : byteAt s (i + 1) ≠ 116) (n3 : byteAt s (i + 1) ≠ 92) (n4 : byteAt s (i + 1) ≠ 39) (n5 : byteAt s (i + 1) ≠ 34) (n6 : byteAt s (i + 1) ≠ 120) :
    Calls Tryz.prog 99 #[.string s, .int .i64 fr, .int .i64 i] w fun e w' => e = .returned (uV 0 ⟨#[]⟩ ⟨#[]⟩ 0 0 7 fr ⟨#[]⟩) ∧ Only (fun _ => False) w w' := by
  have hi : i < s.size := byteAt_pos (by omega)
  have HP : Hid (prn (byteAt s i) = true) := Lib.hid (by rw [h92]; exact prn_92)
  have hSy : (((s[i]'hi).toNat : Nat) : Int) = 92 := by rw [← byteAt_lt hi]; exact h92
  have hi2 : i + 1 < s.size := byteAt_pos (by intro h; rw [h, prn_0] at hp; cases hp)
  have HP2 := Lib.hid hp
  obtain ⟨y, hy⟩ : ∃ y, byteAt s (i + 1) = y := ⟨_, rfl⟩
  have hSy2 : (((s[i + 1]'hi2).toNat : Nat) : Int) = y := by rw [← byteAt_lt hi2]; exact hy
  rw [hy] at n1 n2 n3 n4 n5 n6
  have m1 : (y == 110) = false := by simpa using n1
  have m2 : (y == 116) = false := by simpa using n2
  have m3 : (y == 92) = false := by simpa using n3
  have m4 : (y == 39) = false := by simpa using n4
  have m5 : (y == 34) = false := by simpa using n5
  have m6 : (y == 120) = false := by simpa using n6
  clear hy hp h92
  go_enter Tryz.func99, Tryz.ntmps99
  go_wp2_with (go_loud (first | (go_at_call 98; ((with_reducible refine (rstep_ok s _ i _ hz HP.out).mono ?_); rintro e w1 ⟨rfl, hO1⟩; have hU1 := ((UX.new w 0 ⟨#[]⟩ ⟨#[]⟩ 0 0 0 0 ⟨#[]⟩).keep hO1).keep (uA_only w1 0 ⟨#[]⟩ ⟨#[]⟩ 0 0 0 0 ⟨#[]⟩); have hV1 := UX.new w1 0 ⟨#[]⟩ ⟨#[]⟩ 0 0 0 0 ⟨#[]⟩)) | (go_at_call 98; ((with_reducible refine (rstep_okj s _ (i + 1) _ _ (by omega) hz HP2.out).mono ?_); rintro e w2 ⟨rfl, hO2⟩; have hV2 := hV1.keep hO2; have hU2 := (hU1.keep hO2).only (Only.set11 w2 w1.heap.size (.int .i64 0) (.string ⟨#[]⟩) (.string ⟨#[]⟩) (.int .i64 0) (.bool false) (.int .i64 0) (.int .i64 0) (.int .i64 0) (.int .i64 0) (.int .i64 0) (.string ⟨#[]⟩)) (by have := hO1.size; rw [uA_size] at this; omega); obtain ⟨c0, c1, c2, c3, c4, c5, c6, c7, c8, c9, c10⟩ := hU2.cells; have z0 := hU2.fz 0; have z1 := hU2.fz 1; have z2 := hU2.fz 2; have z3 := hU2.fz 3; have z4 := hU2.fz 4; have z5 := hU2.fz 5; have z6 := hU2.fz 6; have z7 := hU2.fz 7; have z8 := hU2.fz 8; have z9 := hU2.fz 9; have z10 := hU2.fz 10; obtain ⟨d0, d1, d2, d3, d4, d5, d6, d7, d8, d9, d10⟩ := hV2.cells; have y0 := hV2.fz 0; have y1 := hV2.fz 1; have y2 := hV2.fz 2; have y3 := hV2.fz 3; have y4 := hV2.fz 4; have y5 := hV2.fz 5; have y6 := hV2.fz 6; have y7 := hV2.fz 7; have y8 := hV2.fz 8; have y9 := hV2.fz 9; have y10 := hV2.fz 10)) | (go_at_call 70; ((with_reducible refine (rbad_p _ _ _ _).mono ?_); rintro e w3 ⟨rfl, hO3⟩; have hU3 := hU2.keep hO3; obtain ⟨e0, e1, e2, e3, e4, e5, e6, e7, e8, e9, e10⟩ := hU3.cells; have x0 := hU3.fz 0; have x1 := hU3.fz 1; have x2 := hU3.fz 2; have x3 := hU3.fz 3; have x4 := hU3.fz 4; have x5 := hU3.fz 5; have x6 := hU3.fz 6; have x7 := hU3.fz 7; have x8 := hU3.fz 8; have x9 := hU3.fz 9; have x10 := hU3.fz 10))))
  exact bodyPost_ret (v := uV 0 ⟨#[]⟩ ⟨#[]⟩ 0 0 7 fr ⟨#[]⟩) (by simp [results, Tryz.results99, go_sem, e0, e1, e2, e3, e4, e5, e6, e7, e8, e9, e10]) rfl ⟨rfl, own_set ((own_set (((((uA_only w _ _ _ _ _ _ _ _).trans hO1).trans (uA_only w1 _ _ _ _ _ _ _ _)).trans hO2)) (by have := hO1.size; rw [uA_size] at this; omega) _ _ _ _ _ _ _ _ _ _ _).trans hO3) (Nat.le_refl _) _ _ _ _ _ _ _ _ _ _ _⟩
end Go.Proofs.YtelichlplblboaaGreatDoor
