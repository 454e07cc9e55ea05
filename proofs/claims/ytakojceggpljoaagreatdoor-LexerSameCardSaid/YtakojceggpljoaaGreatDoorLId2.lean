/-
  WALKS. The scanner's identifiers.
-/
import Derived.Test.YtakojceggpljoaaGreatDoorLId
namespace Go.Proofs.YtakojceggpljoaaGreatDoor
open Go.RowKit Go.Maps
section
variable {W w : World} {b : Nat} {s : ByteArray} {i0 i : Nat} {tk : Value} {F : Flt}
theorem run_wp {B : At} (hS : Scn w b s B (pos s i) tk F) (hz : s.size ≤ 65536) (hi : i ≤ s.size) :
    Calls Tryz.prog 41 #[.pointer (some ⟨b, 0, none⟩), .func (.func 90) #[] #[]] w fun r w' => r = .returned (.string (s.extract i (rE wd s i))) ∧ Only (fun _ => False) w w' :=
  (run_word hS (by omega) (by rw [pos_at]; exact hi)).mono fun _ _ ⟨⟨e, he, hr⟩, hO⟩ => ⟨by rw [pos_at] at he hr; rw [he, rE_of hr], hO⟩
theorem run_sp {B : At} (hS : Scn w b s B (pos s i) tk F) (hz : s.size ≤ 65536) (hi : i ≤ s.size) :
    Calls Tryz.prog 41 #[.pointer (some ⟨b, 0, none⟩), .func (.func 42) #[] #[]] w fun r w' => r = .returned (.string (s.extract i (rE sy s i))) ∧ Only (fun _ => False) w w' :=
  (run_sym hS (by omega) (by rw [pos_at]; exact hi)).mono fun _ _ ⟨⟨e, he, hr⟩, hO⟩ => ⟨by rw [pos_at] at he hr; rw [he, rE_of hr], hO⟩
theorem idR_no {s : ByteArray} {i : Nat} (h : (up (byteAt s i) && decide (rE wd s i < s.size) && decide (byteAt s (rE wd s i) = 46) && qok (s.extract (rE wd s i + 1) (nE s (rE wd s i + 1)))) = false) : idR s i = nmR s i nil8 i := by
  unfold idR; rw [h]; rfl
set_option maxRecDepth 100000 in
set_option maxHeartbeats 2000000 in
theorem id_a (hQ : Q W w) (hWb : W.heap.size ≤ b) (hS : Scn w b s (pos s i) (pos s i) tk F) (hz : s.size ≤ 65536) (hst : stt (byteAt s i) = true) (hu : up (byteAt s i) = false) :
    Calls Tryz.prog 49 #[.pointer (some ⟨b, 0, none⟩)] w (TokPost w b s i tk F (nmR s i nil8 i)) := by
  have hSz := hS.lt
  have hR := RB.new w
  have hS0 := hS.alloc (.cells #[.int .i64 0, .string ⟨#[]⟩, .string ⟨#[]⟩, .int .i64 0, .bool false, .int .i64 0, .int .i64 0] 38)
  have hQ0 : Q W (w.alloc (.cells #[.int .i64 0, .string ⟨#[]⟩, .string ⟨#[]⟩, .int .i64 0, .bool false, .int .i64 0, .int .i64 0] 38)) := hQ.below ((Below.refl _ _).alloc (Nat.le_refl _) _)
  have hl := stt_pos hst
  have hi : i ≤ s.size := Nat.le_of_lt hl
  have he0 := rE_lt hl (wd_of_stt hst)
  have he1 := (rE_end wd hi).hi
  clear hst
  obtain ⟨e, he⟩ : ∃ e, e = rE wd s i := ⟨_, rfl⟩
  rw [← he] at he0 he1
  have hts := ext_size (s := s) (Nat.le_of_lt he0) he1
  have hbz : byteAt s i = ((s.extract i e)[0]'(by omega)).toNat := by rw [byteAt_lt hl]; simp [ByteArray.getElem_extract]
  have hE64 := ext_ext (s := s) (a := i) (e := e)
  have HE := Lib.hid he
  obtain ⟨t, ht⟩ : ∃ t, s.extract i e = t := ⟨_, rfl⟩
  have h0 : 0 < t.size := by rw [← ht]; omega
  have HU : Hid (up ((t[0]'h0).toNat : Int) = up (byteAt s i)) := Lib.hid (by rw [hbz]; subst ht; rfl)
  have hE : (i : Int) + (t.size : Int) = (e : Int) := by rw [← ht, hts]; omega
  have HT := Lib.hid ht
  have hX64 : 64 < t.size → t.extract 0 64 = s.extract i (i + 64) := fun h => by rw [← ht]; exact hE64 (by rw [← ht] at h; omega)
  have HX := Lib.hid hX64
  have hts2 : t.size = e - i := by rw [← ht]; exact hts
  have HTS := Lib.hid hts2
  clear ht hbz hE64 hts hX64 hts2 he
  have HUP := Lib.hid hu
  clear hu
  cases hn : nmR s i nil8 i with
  | ok y g =>
    have HNM := Lib.hid (show nmR s i ⟨#[]⟩ i = _ from hn)
    clear hn
    go_enter Tryz.func49, Tryz.ntmps49
    go_wp2_with (first | (go_at_call 41; refine (run_wp hS0 hz hi).mono ?_; rw [← HE.out, HT.out]; rintro r w2 ⟨rfl, hO2⟩; have hS2 := hS0.keep hO2; have hQ2 := hQ0.only hO2 (fun _ hc => hc.elim); have c0 := hS2.src'; have c4 := hS2.hat_p) | (go_at_call 86; refine (isUpper_any _ _).mono ?_; rw [HU.out, HUP.out]; rintro r w3 ⟨rfl, rfl⟩) | (go_at_call 50; refine (name_p hQ2 hWb hS2 _ i hz (Nat.le_refl i) hi).mono ?_; rw [HNM.out]; rintro r w7 ⟨rfl, hS7, hO7⟩; have hO8 := hO2.lift.trans hO7; have hR7 := hR.only hO8 (by omega); have d0 := hR7.c0; have d1 := hR7.c1; have d2 := hR7.c2; have d3 := hR7.c3; have d4 := hR7.c4; have d5 := hR7.c5; have d6 := hR7.c6; have z0 := hR7.fz 0; have z1 := hR7.fz 1; have z2 := hR7.fz 2; have z3 := hR7.fz 3; have z4 := hR7.fz 4; have z5 := hR7.fz 5; have z6 := hR7.fz 6))
    exact bodyPost_ret (v := .tuple #[tkC y, .bool true]) (by simp [results, Tryz.results49, go_sem, d0, d1, d2, d3, d4, d5, d6]) rfl (tok_ok rfl rfl hSz hS7 hO8 (Only.set7 _ _ _ _ _ _ _ _ _))
  | bad g =>
    have HNM := Lib.hid (show nmR s i ⟨#[]⟩ i = _ from hn)
    clear hn
    go_enter Tryz.func49, Tryz.ntmps49
    go_wp2_with (first | (go_at_call 41; refine (run_wp hS0 hz hi).mono ?_; rw [← HE.out, HT.out]; rintro r w2 ⟨rfl, hO2⟩; have hS2 := hS0.keep hO2; have hQ2 := hQ0.only hO2 (fun _ hc => hc.elim); have c0 := hS2.src'; have c4 := hS2.hat_p) | (go_at_call 86; refine (isUpper_any _ _).mono ?_; rw [HU.out, HUP.out]; rintro r w3 ⟨rfl, rfl⟩) | (go_at_call 50; refine (name_p hQ2 hWb hS2 _ i hz (Nat.le_refl i) hi).mono ?_; rw [HNM.out]; rintro r w7 ⟨rfl, hS7, hO7⟩; have hO8 := hO2.lift.trans hO7; have hR7 := hR.only hO8 (by omega); have d0 := hR7.c0; have d1 := hR7.c1; have d2 := hR7.c2; have d3 := hR7.c3; have d4 := hR7.c4; have d5 := hR7.c5; have d6 := hR7.c6; have z0 := hR7.fz 0; have z1 := hR7.fz 1; have z2 := hR7.fz 2; have z3 := hR7.fz 3; have z4 := hR7.fz 4; have z5 := hR7.fz 5; have z6 := hR7.fz 6))
    exact bodyPost_ret (v := .tuple #[tkZ, .bool false]) (by simp [results, Tryz.results49, go_sem, d0, d1, d2, d3, d4, d5, d6]) rfl (tok_bad rfl rfl hSz hS7 hO8 (Only.set7 _ _ _ _ _ _ _ _ _))
set_option maxRecDepth 100000 in
set_option maxHeartbeats 2000000 in
theorem id_b (hQ : Q W w) (hWb : W.heap.size ≤ b) (hS : Scn w b s (pos s i) (pos s i) tk F) (hz : s.size ≤ 65536) (hst : stt (byteAt s i) = true) (hu : up (byteAt s i) = true) (hend : ¬ rE wd s i < s.size) :
    Calls Tryz.prog 49 #[.pointer (some ⟨b, 0, none⟩)] w (TokPost w b s i tk F (nmR s i nil8 i)) := by
  have hSz := hS.lt
  have hR := RB.new w
  have hS0 := hS.alloc (.cells #[.int .i64 0, .string ⟨#[]⟩, .string ⟨#[]⟩, .int .i64 0, .bool false, .int .i64 0, .int .i64 0] 38)
  have hQ0 : Q W (w.alloc (.cells #[.int .i64 0, .string ⟨#[]⟩, .string ⟨#[]⟩, .int .i64 0, .bool false, .int .i64 0, .int .i64 0] 38)) := hQ.below ((Below.refl _ _).alloc (Nat.le_refl _) _)
  have hl := stt_pos hst
  have hi : i ≤ s.size := Nat.le_of_lt hl
  have he0 := rE_lt hl (wd_of_stt hst)
  have he1 := (rE_end wd hi).hi
  clear hst
  obtain ⟨e, he⟩ : ∃ e, e = rE wd s i := ⟨_, rfl⟩
  rw [← he] at he0 he1
  have hts := ext_size (s := s) (Nat.le_of_lt he0) he1
  have hbz : byteAt s i = ((s.extract i e)[0]'(by omega)).toNat := by rw [byteAt_lt hl]; simp [ByteArray.getElem_extract]
  have hE64 := ext_ext (s := s) (a := i) (e := e)
  have HE := Lib.hid he
  obtain ⟨t, ht⟩ : ∃ t, s.extract i e = t := ⟨_, rfl⟩
  have h0 : 0 < t.size := by rw [← ht]; omega
  have HU : Hid (up ((t[0]'h0).toNat : Int) = up (byteAt s i)) := Lib.hid (by rw [hbz]; subst ht; rfl)
  have hE : (i : Int) + (t.size : Int) = (e : Int) := by rw [← ht, hts]; omega
  have HT := Lib.hid ht
  have hX64 : 64 < t.size → t.extract 0 64 = s.extract i (i + 64) := fun h => by rw [← ht]; exact hE64 (by rw [← ht] at h; omega)
  have HX := Lib.hid hX64
  have hts2 : t.size = e - i := by rw [← ht]; exact hts
  have HTS := Lib.hid hts2
  clear ht hbz hE64 hts hX64 hts2 he
  have HUP := Lib.hid hu
  clear hu
  rw [← HE.out] at hend
  have heq : e = s.size := by omega
  have q1 : ((e : Int) == (s.size : Int)) = true := by simp; omega
  have q2 : (e == s.size) = true := by simp; omega
  clear heq hend
  cases hn : nmR s i nil8 i with
  | ok y g =>
    have HNM := Lib.hid (show nmR s i ⟨#[]⟩ i = _ from hn)
    clear hn
    go_enter Tryz.func49, Tryz.ntmps49
    go_wp2_with (first | (go_at_call 41; refine (run_wp hS0 hz hi).mono ?_; rw [← HE.out, HT.out]; rintro r w2 ⟨rfl, hO2⟩; have hS2 := hS0.keep hO2; have hQ2 := hQ0.only hO2 (fun _ hc => hc.elim); have c0 := hS2.src'; have c4 := hS2.hat_p) | (go_at_call 86; refine (isUpper_any _ _).mono ?_; rw [HU.out, HUP.out]; rintro r w3 ⟨rfl, rfl⟩) | (go_at_call 50; refine (name_p hQ2 hWb hS2 _ i hz (Nat.le_refl i) hi).mono ?_; rw [HNM.out]; rintro r w7 ⟨rfl, hS7, hO7⟩; have hO8 := hO2.lift.trans hO7; have hR7 := hR.only hO8 (by omega); have d0 := hR7.c0; have d1 := hR7.c1; have d2 := hR7.c2; have d3 := hR7.c3; have d4 := hR7.c4; have d5 := hR7.c5; have d6 := hR7.c6; have z0 := hR7.fz 0; have z1 := hR7.fz 1; have z2 := hR7.fz 2; have z3 := hR7.fz 3; have z4 := hR7.fz 4; have z5 := hR7.fz 5; have z6 := hR7.fz 6))
    exact bodyPost_ret (v := .tuple #[tkC y, .bool true]) (by simp [results, Tryz.results49, go_sem, d0, d1, d2, d3, d4, d5, d6]) rfl (tok_ok rfl rfl hSz hS7 hO8 (Only.set7 _ _ _ _ _ _ _ _ _))
  | bad g =>
    have HNM := Lib.hid (show nmR s i ⟨#[]⟩ i = _ from hn)
    clear hn
    go_enter Tryz.func49, Tryz.ntmps49
    go_wp2_with (first | (go_at_call 41; refine (run_wp hS0 hz hi).mono ?_; rw [← HE.out, HT.out]; rintro r w2 ⟨rfl, hO2⟩; have hS2 := hS0.keep hO2; have hQ2 := hQ0.only hO2 (fun _ hc => hc.elim); have c0 := hS2.src'; have c4 := hS2.hat_p) | (go_at_call 86; refine (isUpper_any _ _).mono ?_; rw [HU.out, HUP.out]; rintro r w3 ⟨rfl, rfl⟩) | (go_at_call 50; refine (name_p hQ2 hWb hS2 _ i hz (Nat.le_refl i) hi).mono ?_; rw [HNM.out]; rintro r w7 ⟨rfl, hS7, hO7⟩; have hO8 := hO2.lift.trans hO7; have hR7 := hR.only hO8 (by omega); have d0 := hR7.c0; have d1 := hR7.c1; have d2 := hR7.c2; have d3 := hR7.c3; have d4 := hR7.c4; have d5 := hR7.c5; have d6 := hR7.c6; have z0 := hR7.fz 0; have z1 := hR7.fz 1; have z2 := hR7.fz 2; have z3 := hR7.fz 3; have z4 := hR7.fz 4; have z5 := hR7.fz 5; have z6 := hR7.fz 6))
    exact bodyPost_ret (v := .tuple #[tkZ, .bool false]) (by simp [results, Tryz.results49, go_sem, d0, d1, d2, d3, d4, d5, d6]) rfl (tok_bad rfl rfl hSz hS7 hO8 (Only.set7 _ _ _ _ _ _ _ _ _))
set_option maxRecDepth 100000 in
set_option maxHeartbeats 2000000 in
theorem id_c (hQ : Q W w) (hWb : W.heap.size ≤ b) (hS : Scn w b s (pos s i) (pos s i) tk F) (hz : s.size ≤ 65536) (hst : stt (byteAt s i) = true) (hu : up (byteAt s i) = true) (hend : rE wd s i < s.size) (hb : ¬ byteAt s (rE wd s i) = 46) :
    Calls Tryz.prog 49 #[.pointer (some ⟨b, 0, none⟩)] w (TokPost w b s i tk F (nmR s i nil8 i)) := by
  have hSz := hS.lt
  have hR := RB.new w
  have hS0 := hS.alloc (.cells #[.int .i64 0, .string ⟨#[]⟩, .string ⟨#[]⟩, .int .i64 0, .bool false, .int .i64 0, .int .i64 0] 38)
  have hQ0 : Q W (w.alloc (.cells #[.int .i64 0, .string ⟨#[]⟩, .string ⟨#[]⟩, .int .i64 0, .bool false, .int .i64 0, .int .i64 0] 38)) := hQ.below ((Below.refl _ _).alloc (Nat.le_refl _) _)
  have hl := stt_pos hst
  have hi : i ≤ s.size := Nat.le_of_lt hl
  have he0 := rE_lt hl (wd_of_stt hst)
  have he1 := (rE_end wd hi).hi
  clear hst
  obtain ⟨e, he⟩ : ∃ e, e = rE wd s i := ⟨_, rfl⟩
  rw [← he] at he0 he1
  have hts := ext_size (s := s) (Nat.le_of_lt he0) he1
  have hbz : byteAt s i = ((s.extract i e)[0]'(by omega)).toNat := by rw [byteAt_lt hl]; simp [ByteArray.getElem_extract]
  have hE64 := ext_ext (s := s) (a := i) (e := e)
  have HE := Lib.hid he
  obtain ⟨t, ht⟩ : ∃ t, s.extract i e = t := ⟨_, rfl⟩
  have h0 : 0 < t.size := by rw [← ht]; omega
  have HU : Hid (up ((t[0]'h0).toNat : Int) = up (byteAt s i)) := Lib.hid (by rw [hbz]; subst ht; rfl)
  have hE : (i : Int) + (t.size : Int) = (e : Int) := by rw [← ht, hts]; omega
  have HT := Lib.hid ht
  have hX64 : 64 < t.size → t.extract 0 64 = s.extract i (i + 64) := fun h => by rw [← ht]; exact hE64 (by rw [← ht] at h; omega)
  have HX := Lib.hid hX64
  have hts2 : t.size = e - i := by rw [← ht]; exact hts
  have HTS := Lib.hid hts2
  clear ht hbz hE64 hts hX64 hts2 he
  have HUP := Lib.hid hu
  clear hu
  rw [← HE.out] at hend hb
  have q1 : ((e : Int) == (s.size : Int)) = false := by simp; omega
  have q2 : (e == s.size) = false := by simp; omega
  rw [byteAt_lt hend] at hb
  have q3 : (((s[e]'hend).toNat : Int) != 46) = true := by simp; omega
  clear hb
  cases hn : nmR s i nil8 i with
  | ok y g =>
    have HNM := Lib.hid (show nmR s i ⟨#[]⟩ i = _ from hn)
    clear hn
    go_enter Tryz.func49, Tryz.ntmps49
    go_wp2_with (first | (go_at_call 41; refine (run_wp hS0 hz hi).mono ?_; rw [← HE.out, HT.out]; rintro r w2 ⟨rfl, hO2⟩; have hS2 := hS0.keep hO2; have hQ2 := hQ0.only hO2 (fun _ hc => hc.elim); have c0 := hS2.src'; have c4 := hS2.hat_p) | (go_at_call 86; refine (isUpper_any _ _).mono ?_; rw [HU.out, HUP.out]; rintro r w3 ⟨rfl, rfl⟩) | (go_at_call 50; refine (name_p hQ2 hWb hS2 _ i hz (Nat.le_refl i) hi).mono ?_; rw [HNM.out]; rintro r w7 ⟨rfl, hS7, hO7⟩; have hO8 := hO2.lift.trans hO7; have hR7 := hR.only hO8 (by omega); have d0 := hR7.c0; have d1 := hR7.c1; have d2 := hR7.c2; have d3 := hR7.c3; have d4 := hR7.c4; have d5 := hR7.c5; have d6 := hR7.c6; have z0 := hR7.fz 0; have z1 := hR7.fz 1; have z2 := hR7.fz 2; have z3 := hR7.fz 3; have z4 := hR7.fz 4; have z5 := hR7.fz 5; have z6 := hR7.fz 6))
    exact bodyPost_ret (v := .tuple #[tkC y, .bool true]) (by simp [results, Tryz.results49, go_sem, d0, d1, d2, d3, d4, d5, d6]) rfl (tok_ok rfl rfl hSz hS7 hO8 (Only.set7 _ _ _ _ _ _ _ _ _))
  | bad g =>
    have HNM := Lib.hid (show nmR s i ⟨#[]⟩ i = _ from hn)
    clear hn
    go_enter Tryz.func49, Tryz.ntmps49
    go_wp2_with (first | (go_at_call 41; refine (run_wp hS0 hz hi).mono ?_; rw [← HE.out, HT.out]; rintro r w2 ⟨rfl, hO2⟩; have hS2 := hS0.keep hO2; have hQ2 := hQ0.only hO2 (fun _ hc => hc.elim); have c0 := hS2.src'; have c4 := hS2.hat_p) | (go_at_call 86; refine (isUpper_any _ _).mono ?_; rw [HU.out, HUP.out]; rintro r w3 ⟨rfl, rfl⟩) | (go_at_call 50; refine (name_p hQ2 hWb hS2 _ i hz (Nat.le_refl i) hi).mono ?_; rw [HNM.out]; rintro r w7 ⟨rfl, hS7, hO7⟩; have hO8 := hO2.lift.trans hO7; have hR7 := hR.only hO8 (by omega); have d0 := hR7.c0; have d1 := hR7.c1; have d2 := hR7.c2; have d3 := hR7.c3; have d4 := hR7.c4; have d5 := hR7.c5; have d6 := hR7.c6; have z0 := hR7.fz 0; have z1 := hR7.fz 1; have z2 := hR7.fz 2; have z3 := hR7.fz 3; have z4 := hR7.fz 4; have z5 := hR7.fz 5; have z6 := hR7.fz 6))
    exact bodyPost_ret (v := .tuple #[tkZ, .bool false]) (by simp [results, Tryz.results49, go_sem, d0, d1, d2, d3, d4, d5, d6]) rfl (tok_bad rfl rfl hSz hS7 hO8 (Only.set7 _ _ _ _ _ _ _ _ _))
set_option maxRecDepth 100000 in
set_option maxHeartbeats 2000000 in
theorem id_d (hQ : Q W w) (hWb : W.heap.size ≤ b) (hS : Scn w b s (pos s i) (pos s i) tk F) (hz : s.size ≤ 65536) (hst : stt (byteAt s i) = true) (hu : up (byteAt s i) = true) (hend : rE wd s i < s.size) (hb : byteAt s (rE wd s i) = 46) (hq : qok (s.extract (rE wd s i + 1) (nE s (rE wd s i + 1))) = false) :
    Calls Tryz.prog 49 #[.pointer (some ⟨b, 0, none⟩)] w (TokPost w b s i tk F (nmR s i nil8 i)) := by
  have hSz := hS.lt
  have hR := RB.new w
  have hS0 := hS.alloc (.cells #[.int .i64 0, .string ⟨#[]⟩, .string ⟨#[]⟩, .int .i64 0, .bool false, .int .i64 0, .int .i64 0] 38)
  have hQ0 : Q W (w.alloc (.cells #[.int .i64 0, .string ⟨#[]⟩, .string ⟨#[]⟩, .int .i64 0, .bool false, .int .i64 0, .int .i64 0] 38)) := hQ.below ((Below.refl _ _).alloc (Nat.le_refl _) _)
  have hl := stt_pos hst
  have hi : i ≤ s.size := Nat.le_of_lt hl
  have he0 := rE_lt hl (wd_of_stt hst)
  have he1 := (rE_end wd hi).hi
  clear hst
  obtain ⟨e, he⟩ : ∃ e, e = rE wd s i := ⟨_, rfl⟩
  rw [← he] at he0 he1
  have hts := ext_size (s := s) (Nat.le_of_lt he0) he1
  have hbz : byteAt s i = ((s.extract i e)[0]'(by omega)).toNat := by rw [byteAt_lt hl]; simp [ByteArray.getElem_extract]
  have hE64 := ext_ext (s := s) (a := i) (e := e)
  have HE := Lib.hid he
  obtain ⟨t, ht⟩ : ∃ t, s.extract i e = t := ⟨_, rfl⟩
  have h0 : 0 < t.size := by rw [← ht]; omega
  have HU : Hid (up ((t[0]'h0).toNat : Int) = up (byteAt s i)) := Lib.hid (by rw [hbz]; subst ht; rfl)
  have hE : (i : Int) + (t.size : Int) = (e : Int) := by rw [← ht, hts]; omega
  have HT := Lib.hid ht
  have hX64 : 64 < t.size → t.extract 0 64 = s.extract i (i + 64) := fun h => by rw [← ht]; exact hE64 (by rw [← ht] at h; omega)
  have HX := Lib.hid hX64
  have hts2 : t.size = e - i := by rw [← ht]; exact hts
  have HTS := Lib.hid hts2
  clear ht hbz hE64 hts hX64 hts2 he
  have HUP := Lib.hid hu
  clear hu
  rw [← HE.out] at hend hb
  have q1 : ((e : Int) == (s.size : Int)) = false := by simp; omega
  have q2 : (e == s.size) = false := by simp; omega
  rw [byteAt_lt hend] at hb
  have q3 : (((s[e]'hend).toNat : Int) != 46) = false := by rw [hb]; rfl
  rw [← HE.out] at hq
  obtain ⟨f, hf⟩ : ∃ f, f = e + 1 := ⟨_, rfl⟩
  rw [← hf] at hq
  have hf1 : f ≤ s.size := by omega
  have hef : i ≤ f := by omega
  have hF : (e : Int) + 1 = (f : Int) := by omega
  obtain ⟨hn1, hn2⟩ := nE_bd hf1
  have hz2' := ext_size (s := s) hn1 hn2
  obtain ⟨t2, ht2⟩ : ∃ t2, s.extract f (nE s f) = t2 := ⟨_, rfl⟩
  rw [ht2] at hq hz2'
  have hz2 : t2.size ≤ 65536 := by omega
  have HQV := Lib.hid hq
  have HT2 := Lib.hid ht2
  have HFE := Lib.hid hf
  clear hb hq hf hn1 hn2 hz2' ht2
  cases hn : nmR s i nil8 i with
  | ok y g =>
    have HNM := Lib.hid (show nmR s i ⟨#[]⟩ i = _ from hn)
    clear hn
    go_enter Tryz.func49, Tryz.ntmps49
    go_wp2_with (first | (go_at_call 41; refine (run_wp hS0 hz hi).mono ?_; rw [← HE.out, HT.out]; rintro r w2 ⟨rfl, hO2⟩; have hS2 := hS0.keep hO2; have hQ2 := hQ0.only hO2 (fun _ hc => hc.elim); have c0 := hS2.src'; have c4 := hS2.hat_p) | (go_at_call 86; refine (isUpper_any _ _).mono ?_; rw [HU.out, HUP.out]; rintro r w3 ⟨rfl, rfl⟩) | (go_at_call 92; refine (NameAt_p _ f _ hz hf1).mono ?_; rw [HT2.out]; rintro r w4 ⟨rfl, hO4⟩; have hS4 := hS2.keep hO4; have hQ4 := hQ2.only hO4 (fun _ hc => hc.elim)) | (go_at_call 91; refine (isQualified_q _ false _ _ hz2 HQV.out hQ4).mono ?_; rintro r w5 ⟨rfl, hQ5, hO5⟩; have hS5 := hS4.keep hO5; have c5 := hS5.hat_p) | (go_at_call 50; refine (name_p hQ5 hWb hS5 _ i hz (Nat.le_refl i) hi).mono ?_; rw [HNM.out]; rintro r w7 ⟨rfl, hS7, hO7⟩; have hO8 := ((hO2.lift.trans hO4.lift).trans hO5.lift).trans hO7; have hR7 := hR.only hO8 (by omega); have d0 := hR7.c0; have d1 := hR7.c1; have d2 := hR7.c2; have d3 := hR7.c3; have d4 := hR7.c4; have d5 := hR7.c5; have d6 := hR7.c6; have z0 := hR7.fz 0; have z1 := hR7.fz 1; have z2 := hR7.fz 2; have z3 := hR7.fz 3; have z4 := hR7.fz 4; have z5 := hR7.fz 5; have z6 := hR7.fz 6))
    exact bodyPost_ret (v := .tuple #[tkC y, .bool true]) (by simp [results, Tryz.results49, go_sem, d0, d1, d2, d3, d4, d5, d6]) rfl (tok_ok rfl rfl hSz hS7 hO8 (Only.set7 _ _ _ _ _ _ _ _ _))
  | bad g =>
    have HNM := Lib.hid (show nmR s i ⟨#[]⟩ i = _ from hn)
    clear hn
    go_enter Tryz.func49, Tryz.ntmps49
    go_wp2_with (first | (go_at_call 41; refine (run_wp hS0 hz hi).mono ?_; rw [← HE.out, HT.out]; rintro r w2 ⟨rfl, hO2⟩; have hS2 := hS0.keep hO2; have hQ2 := hQ0.only hO2 (fun _ hc => hc.elim); have c0 := hS2.src'; have c4 := hS2.hat_p) | (go_at_call 86; refine (isUpper_any _ _).mono ?_; rw [HU.out, HUP.out]; rintro r w3 ⟨rfl, rfl⟩) | (go_at_call 92; refine (NameAt_p _ f _ hz hf1).mono ?_; rw [HT2.out]; rintro r w4 ⟨rfl, hO4⟩; have hS4 := hS2.keep hO4; have hQ4 := hQ2.only hO4 (fun _ hc => hc.elim)) | (go_at_call 91; refine (isQualified_q _ false _ _ hz2 HQV.out hQ4).mono ?_; rintro r w5 ⟨rfl, hQ5, hO5⟩; have hS5 := hS4.keep hO5; have c5 := hS5.hat_p) | (go_at_call 50; refine (name_p hQ5 hWb hS5 _ i hz (Nat.le_refl i) hi).mono ?_; rw [HNM.out]; rintro r w7 ⟨rfl, hS7, hO7⟩; have hO8 := ((hO2.lift.trans hO4.lift).trans hO5.lift).trans hO7; have hR7 := hR.only hO8 (by omega); have d0 := hR7.c0; have d1 := hR7.c1; have d2 := hR7.c2; have d3 := hR7.c3; have d4 := hR7.c4; have d5 := hR7.c5; have d6 := hR7.c6; have z0 := hR7.fz 0; have z1 := hR7.fz 1; have z2 := hR7.fz 2; have z3 := hR7.fz 3; have z4 := hR7.fz 4; have z5 := hR7.fz 5; have z6 := hR7.fz 6))
    exact bodyPost_ret (v := .tuple #[tkZ, .bool false]) (by simp [results, Tryz.results49, go_sem, d0, d1, d2, d3, d4, d5, d6]) rfl (tok_bad rfl rfl hSz hS7 hO8 (Only.set7 _ _ _ _ _ _ _ _ _))
set_option maxRecDepth 100000 in
set_option maxHeartbeats 2000000 in
theorem id_f (hQ : Q W w) (hWb : W.heap.size ≤ b) (hS : Scn w b s (pos s i) (pos s i) tk F) (hz : s.size ≤ 65536) (hst : stt (byteAt s i) = true) (hu : up (byteAt s i) = true) (hend : rE wd s i < s.size) (hb : byteAt s (rE wd s i) = 46) (hq : qok (s.extract (rE wd s i + 1) (nE s (rE wd s i + 1))) = true) (hlong : ¬ 64 < rE wd s i - i) :
    Calls Tryz.prog 49 #[.pointer (some ⟨b, 0, none⟩)] w (TokPost w b s i tk F (nmR s i (s.extract i (rE wd s i)) (rE wd s i + 1))) := by
  have hSz := hS.lt
  have hR := RB.new w
  have hS0 := hS.alloc (.cells #[.int .i64 0, .string ⟨#[]⟩, .string ⟨#[]⟩, .int .i64 0, .bool false, .int .i64 0, .int .i64 0] 38)
  have hQ0 : Q W (w.alloc (.cells #[.int .i64 0, .string ⟨#[]⟩, .string ⟨#[]⟩, .int .i64 0, .bool false, .int .i64 0, .int .i64 0] 38)) := hQ.below ((Below.refl _ _).alloc (Nat.le_refl _) _)
  have hl := stt_pos hst
  have hi : i ≤ s.size := Nat.le_of_lt hl
  have he0 := rE_lt hl (wd_of_stt hst)
  have he1 := (rE_end wd hi).hi
  clear hst
  obtain ⟨e, he⟩ : ∃ e, e = rE wd s i := ⟨_, rfl⟩
  rw [← he] at he0 he1
  have hts := ext_size (s := s) (Nat.le_of_lt he0) he1
  have hbz : byteAt s i = ((s.extract i e)[0]'(by omega)).toNat := by rw [byteAt_lt hl]; simp [ByteArray.getElem_extract]
  have hE64 := ext_ext (s := s) (a := i) (e := e)
  have HE := Lib.hid he
  obtain ⟨t, ht⟩ : ∃ t, s.extract i e = t := ⟨_, rfl⟩
  have h0 : 0 < t.size := by rw [← ht]; omega
  have HU : Hid (up ((t[0]'h0).toNat : Int) = up (byteAt s i)) := Lib.hid (by rw [hbz]; subst ht; rfl)
  have hE : (i : Int) + (t.size : Int) = (e : Int) := by rw [← ht, hts]; omega
  have HT := Lib.hid ht
  have hX64 : 64 < t.size → t.extract 0 64 = s.extract i (i + 64) := fun h => by rw [← ht]; exact hE64 (by rw [← ht] at h; omega)
  have HX := Lib.hid hX64
  have hts2 : t.size = e - i := by rw [← ht]; exact hts
  have HTS := Lib.hid hts2
  clear ht hbz hE64 hts hX64 hts2 he
  have HUP := Lib.hid hu
  clear hu
  rw [← HE.out] at hend hb
  have q1 : ((e : Int) == (s.size : Int)) = false := by simp; omega
  have q2 : (e == s.size) = false := by simp; omega
  rw [byteAt_lt hend] at hb
  have q3 : (((s[e]'hend).toNat : Int) != 46) = false := by rw [hb]; rfl
  rw [← HE.out] at hq
  obtain ⟨f, hf⟩ : ∃ f, f = e + 1 := ⟨_, rfl⟩
  rw [← hf] at hq
  have hf1 : f ≤ s.size := by omega
  have hef : i ≤ f := by omega
  have hF : (e : Int) + 1 = (f : Int) := by omega
  obtain ⟨hn1, hn2⟩ := nE_bd hf1
  have hz2' := ext_size (s := s) hn1 hn2
  obtain ⟨t2, ht2⟩ : ∃ t2, s.extract f (nE s f) = t2 := ⟨_, rfl⟩
  rw [ht2] at hq hz2'
  have hz2 : t2.size ≤ 65536 := by omega
  have HQV := Lib.hid hq
  have HT2 := Lib.hid ht2
  have HFE := Lib.hid hf
  clear hb hq hf hn1 hn2 hz2' ht2
  rw [← HE.out] at hlong
  have hlong2 : t.size ≤ 64 := by have := HTS.out; omega
  clear hlong
  cases hn : nmR s i (s.extract i (rE wd s i)) (rE wd s i + 1) with
  | ok y g =>
    have HNM := Lib.hid (show nmR s i t f = .ok y g by rw [← HT.out, HFE.out, HE.out]; exact hn)
    clear hn
    go_enter Tryz.func49, Tryz.ntmps49
    go_wp2_with (first | (go_at_call 41; refine (run_wp hS0 hz hi).mono ?_; rw [← HE.out, HT.out]; rintro r w2 ⟨rfl, hO2⟩; have hS2 := hS0.keep hO2; have hQ2 := hQ0.only hO2 (fun _ hc => hc.elim); have c0 := hS2.src'; have c4 := hS2.hat_p) | (go_at_call 86; refine (isUpper_any _ _).mono ?_; rw [HU.out, HUP.out]; rintro r w3 ⟨rfl, rfl⟩) | (go_at_call 92; refine (NameAt_p _ f _ hz hf1).mono ?_; rw [HT2.out]; rintro r w4 ⟨rfl, hO4⟩; have hS4 := hS2.keep hO4; have hQ4 := hQ2.only hO4 (fun _ hc => hc.elim)) | (go_at_call 91; refine (isQualified_q _ true _ _ hz2 HQV.out hQ4).mono ?_; rintro r w5 ⟨rfl, hQ5, hO5⟩; have hS5 := hS4.keep hO5; have c5 := hS5.hat_p) | (go_at_call 50; refine (name_p hQ5 hWb hS5 _ f hz hef hf1).mono ?_; rw [HNM.out]; rintro r w7 ⟨rfl, hS7, hO7⟩; have hO8 := ((hO2.lift.trans hO4.lift).trans hO5.lift).trans hO7; have hR7 := hR.only hO8 (by omega); have d0 := hR7.c0; have d1 := hR7.c1; have d2 := hR7.c2; have d3 := hR7.c3; have d4 := hR7.c4; have d5 := hR7.c5; have d6 := hR7.c6; have z0 := hR7.fz 0; have z1 := hR7.fz 1; have z2 := hR7.fz 2; have z3 := hR7.fz 3; have z4 := hR7.fz 4; have z5 := hR7.fz 5; have z6 := hR7.fz 6))
    exact bodyPost_ret (v := .tuple #[tkC y, .bool true]) (by simp [results, Tryz.results49, go_sem, d0, d1, d2, d3, d4, d5, d6]) rfl (tok_ok rfl rfl hSz hS7 hO8 (Only.set7 _ _ _ _ _ _ _ _ _))
  | bad g =>
    have HNM := Lib.hid (show nmR s i t f = .bad g by rw [← HT.out, HFE.out, HE.out]; exact hn)
    clear hn
    go_enter Tryz.func49, Tryz.ntmps49
    go_wp2_with (first | (go_at_call 41; refine (run_wp hS0 hz hi).mono ?_; rw [← HE.out, HT.out]; rintro r w2 ⟨rfl, hO2⟩; have hS2 := hS0.keep hO2; have hQ2 := hQ0.only hO2 (fun _ hc => hc.elim); have c0 := hS2.src'; have c4 := hS2.hat_p) | (go_at_call 86; refine (isUpper_any _ _).mono ?_; rw [HU.out, HUP.out]; rintro r w3 ⟨rfl, rfl⟩) | (go_at_call 92; refine (NameAt_p _ f _ hz hf1).mono ?_; rw [HT2.out]; rintro r w4 ⟨rfl, hO4⟩; have hS4 := hS2.keep hO4; have hQ4 := hQ2.only hO4 (fun _ hc => hc.elim)) | (go_at_call 91; refine (isQualified_q _ true _ _ hz2 HQV.out hQ4).mono ?_; rintro r w5 ⟨rfl, hQ5, hO5⟩; have hS5 := hS4.keep hO5; have c5 := hS5.hat_p) | (go_at_call 50; refine (name_p hQ5 hWb hS5 _ f hz hef hf1).mono ?_; rw [HNM.out]; rintro r w7 ⟨rfl, hS7, hO7⟩; have hO8 := ((hO2.lift.trans hO4.lift).trans hO5.lift).trans hO7; have hR7 := hR.only hO8 (by omega); have d0 := hR7.c0; have d1 := hR7.c1; have d2 := hR7.c2; have d3 := hR7.c3; have d4 := hR7.c4; have d5 := hR7.c5; have d6 := hR7.c6; have z0 := hR7.fz 0; have z1 := hR7.fz 1; have z2 := hR7.fz 2; have z3 := hR7.fz 3; have z4 := hR7.fz 4; have z5 := hR7.fz 5; have z6 := hR7.fz 6))
    exact bodyPost_ret (v := .tuple #[tkZ, .bool false]) (by simp [results, Tryz.results49, go_sem, d0, d1, d2, d3, d4, d5, d6]) rfl (tok_bad rfl rfl hSz hS7 hO8 (Only.set7 _ _ _ _ _ _ _ _ _))
set_option maxRecDepth 100000 in
set_option maxHeartbeats 2000000 in
theorem id_e (hQ : Q W w) (hWb : W.heap.size ≤ b) (hS : Scn w b s (pos s i) (pos s i) tk F) (hz : s.size ≤ 65536) (hst : stt (byteAt s i) = true) (hu : up (byteAt s i) = true) (hend : rE wd s i < s.size) (hb : byteAt s (rE wd s i) = 46) (hq : qok (s.extract (rE wd s i + 1) (nE s (rE wd s i + 1))) = true) (hlong : 64 < rE wd s i - i) :
    Calls Tryz.prog 49 #[.pointer (some ⟨b, 0, none⟩)] w (TokPost w b s i tk F (.bad (flt s 3 (s.extract i (i + 64)) i))) := by
  have hSz := hS.lt
  have hR := RB.new w
  have hS0 := hS.alloc (.cells #[.int .i64 0, .string ⟨#[]⟩, .string ⟨#[]⟩, .int .i64 0, .bool false, .int .i64 0, .int .i64 0] 38)
  have hQ0 : Q W (w.alloc (.cells #[.int .i64 0, .string ⟨#[]⟩, .string ⟨#[]⟩, .int .i64 0, .bool false, .int .i64 0, .int .i64 0] 38)) := hQ.below ((Below.refl _ _).alloc (Nat.le_refl _) _)
  have hl := stt_pos hst
  have hi : i ≤ s.size := Nat.le_of_lt hl
  have he0 := rE_lt hl (wd_of_stt hst)
  have he1 := (rE_end wd hi).hi
  clear hst
  obtain ⟨e, he⟩ : ∃ e, e = rE wd s i := ⟨_, rfl⟩
  rw [← he] at he0 he1
  have hts := ext_size (s := s) (Nat.le_of_lt he0) he1
  have hbz : byteAt s i = ((s.extract i e)[0]'(by omega)).toNat := by rw [byteAt_lt hl]; simp [ByteArray.getElem_extract]
  have hE64 := ext_ext (s := s) (a := i) (e := e)
  have HE := Lib.hid he
  obtain ⟨t, ht⟩ : ∃ t, s.extract i e = t := ⟨_, rfl⟩
  have h0 : 0 < t.size := by rw [← ht]; omega
  have HU : Hid (up ((t[0]'h0).toNat : Int) = up (byteAt s i)) := Lib.hid (by rw [hbz]; subst ht; rfl)
  have hE : (i : Int) + (t.size : Int) = (e : Int) := by rw [← ht, hts]; omega
  have HT := Lib.hid ht
  have hX64 : 64 < t.size → t.extract 0 64 = s.extract i (i + 64) := fun h => by rw [← ht]; exact hE64 (by rw [← ht] at h; omega)
  have HX := Lib.hid hX64
  have hts2 : t.size = e - i := by rw [← ht]; exact hts
  have HTS := Lib.hid hts2
  clear ht hbz hE64 hts hX64 hts2 he
  have HUP := Lib.hid hu
  clear hu
  rw [← HE.out] at hend hb
  have q1 : ((e : Int) == (s.size : Int)) = false := by simp; omega
  have q2 : (e == s.size) = false := by simp; omega
  rw [byteAt_lt hend] at hb
  have q3 : (((s[e]'hend).toNat : Int) != 46) = false := by rw [hb]; rfl
  rw [← HE.out] at hq
  obtain ⟨f, hf⟩ : ∃ f, f = e + 1 := ⟨_, rfl⟩
  rw [← hf] at hq
  have hf1 : f ≤ s.size := by omega
  have hef : i ≤ f := by omega
  have hF : (e : Int) + 1 = (f : Int) := by omega
  obtain ⟨hn1, hn2⟩ := nE_bd hf1
  have hz2' := ext_size (s := s) hn1 hn2
  obtain ⟨t2, ht2⟩ : ∃ t2, s.extract f (nE s f) = t2 := ⟨_, rfl⟩
  rw [ht2] at hq hz2'
  have hz2 : t2.size ≤ 65536 := by omega
  have HQV := Lib.hid hq
  have HT2 := Lib.hid ht2
  have HFE := Lib.hid hf
  clear hb hq hf hn1 hn2 hz2' ht2
  rw [← HE.out] at hlong
  have hlong2 : 64 < t.size := by have := HTS.out; omega
  clear hlong
  have HX2 := Lib.hid (HX.out hlong2)
  go_enter Tryz.func49, Tryz.ntmps49
  go_wp2_with (first | (go_at_call 41; refine (run_wp hS0 hz hi).mono ?_; rw [← HE.out, HT.out]; rintro r w2 ⟨rfl, hO2⟩; have hS2 := hS0.keep hO2; have hQ2 := hQ0.only hO2 (fun _ hc => hc.elim); have c0 := hS2.src'; have c4 := hS2.hat_p) | (go_at_call 86; refine (isUpper_any _ _).mono ?_; rw [HU.out, HUP.out]; rintro r w3 ⟨rfl, rfl⟩) | (go_at_call 92; refine (NameAt_p _ f _ hz hf1).mono ?_; rw [HT2.out]; rintro r w4 ⟨rfl, hO4⟩; have hS4 := hS2.keep hO4; have hQ4 := hQ2.only hO4 (fun _ hc => hc.elim)) | (go_at_call 91; refine (isQualified_q _ true _ _ hz2 HQV.out hQ4).mono ?_; rintro r w5 ⟨rfl, hQ5, hO5⟩; have hS5 := hS4.keep hO5; have c5 := hS5.hat_p) | (go_at_call 89; refine (fail_p hS5 3 _).mono ?_; rintro r w7 ⟨rfl, hS7, hO7⟩; have hO8 := ((hO2.lift.trans hO4.lift).trans hO5.lift).trans hO7; have hR7 := hR.only hO8 (by omega); have d0 := hR7.c0; have d1 := hR7.c1; have d2 := hR7.c2; have d3 := hR7.c3; have d4 := hR7.c4; have d5 := hR7.c5; have d6 := hR7.c6; have z0 := hR7.fz 0; have z1 := hR7.fz 1; have z2 := hR7.fz 2; have z3 := hR7.fz 3; have z4 := hR7.fz 4; have z5 := hR7.fz 5; have z6 := hR7.fz 6))
  exact bodyPost_ret (v := .tuple #[tkZ, .bool false]) (by simp [results, Tryz.results49, go_sem, d0, d1, d2, d3, d4, d5, d6]) rfl (tok_bad rfl rfl hSz (by rw [← HX2.out]; exact hS7) hO8 (Only.set7 _ _ _ _ _ _ _ _ _))
theorem identifier_p (hQ : Q W w) (hWb : W.heap.size ≤ b) (hS : Scn w b s (pos s i) (pos s i) tk F) (hz : s.size ≤ 65536) (hst : stt (byteAt s i) = true) :
    Calls Tryz.prog 49 #[.pointer (some ⟨b, 0, none⟩)] w (TokPost w b s i tk F (idR s i)) := by
  cases hu : up (byteAt s i)
  · rw [idR_no (by rw [hu]; rfl)]; exact id_a hQ hWb hS hz hst hu
  by_cases hend : rE wd s i < s.size
  · by_cases hb : byteAt s (rE wd s i) = 46
    · cases hq : qok (s.extract (rE wd s i + 1) (nE s (rE wd s i + 1)))
      · rw [idR_no (by rw [hq]; simp)]; exact id_d hQ hWb hS hz hst hu hend hb hq
      · by_cases hlong : 64 < rE wd s i - i
        · rw [show idR s i = .bad (flt s 3 (s.extract i (i + 64)) i) from by unfold idR; rw [hu, hq, decide_eq_true hend, decide_eq_true hb]; simp [hlong]]
          exact id_e hQ hWb hS hz hst hu hend hb hq hlong
        · rw [show idR s i = nmR s i (s.extract i (rE wd s i)) (rE wd s i + 1) from by unfold idR; rw [hu, hq, decide_eq_true hend, decide_eq_true hb]; simp [hlong]]
          exact id_f hQ hWb hS hz hst hu hend hb hq hlong
    · rw [idR_no (by rw [decide_eq_false hb]; simp)]; exact id_c hQ hWb hS hz hst hu hend hb
  · rw [idR_no (by rw [decide_eq_false hend]; simp)]; exact id_b hQ hWb hS hz hst hu hend
end
end Go.Proofs.YtakojceggpljoaaGreatDoor
