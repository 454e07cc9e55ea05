/-
  WALKS. The reference's lexer: classes of bytes, runs, bad, place, fault.
-/
import Derived.Test.YtelichlplblboaaGreatDoorLc
import Derived.Test.YtelichlplblboaaGreatDoorRf
import Derived.Test.YtelichlplblboaaGreatDoorQu
namespace Go.Proofs.YtelichlplblboaaGreatDoor
open Go.RowKit Go.Maps
/-- Does the byte occur? -/
def anyR (s : ByteArray) (c : Int) : Bool := s.data.toList.any (fun d => ((d.toNat : Int) == c))
set_option maxHeartbeats 1000000 in
theorem rinL_any (c : Int) (s : ByteArray) (w : World) (hs : s.size ≤ 1000000) :
    Calls Tryz.prog 97 #[.int .u8 c, .string s] w fun e w' => e = .returned (.bool (anyR s c)) ∧ w = w' := by
  go_enter Tryz.func97, Tryz.ntmps97
  go_wp2
  go_loop [5] (fun i => ∃ k : Nat, k ≤ s.size ∧ i = .int .i64 k ∧ Hid ((s.data.toList.take k).any (fun d => ((d.toNat : Int) == c)) = false)) (fun i => s.size - (intOf i).toNat)
  case atStart => exact ⟨0, by omega, rfl, Lib.hid rfl⟩
  case round =>
    obtain ⟨k, hk, rfl, HN⟩ := hrel
    by_cases hlt : k < s.size
    · cases hm : ((s[k].toNat : Int) == c)
      · have HK : Hid ((s.data.toList.take (k + 1)).any (fun d => ((d.toNat : Int) == c)) = false) := Lib.hid (by rw [take_snoc s k hlt, List.any_append, HN.out]; simp [hm])
        go_wp2
        exact ⟨⟨k + 1, by omega, by go_num, HK⟩, by simp [intOf]; omega⟩
      · have HK : Hid (anyR s c = true) := Lib.hid (by rw [anyR, List.any_eq_true]; exact ⟨s[k], by rw [show s[k] = s.data.toList[k]'(by simpa using hlt) from rfl]; exact List.getElem_mem _, hm⟩)
        go_wp2
        go_ret
        exact ⟨ret_bool HK.out.symm, rfl⟩
    · have HK : Hid (anyR s c = false) := Lib.hid (by rw [anyR, ← take_end (show s.size ≤ k by omega)]; exact HN.out)
      go_wp2
      go_ret
      exact ⟨ret_bool HK.out.symm, rfl⟩
set_option maxHeartbeats 400000 in
theorem rl_lower (n : Int) (w : World) :
    Calls Tryz.prog 57 #[.int .u8 n] w fun e w' => e = .returned (.bool (lw n)) ∧ w = w' := by
  go_enter Tryz.func57, Tryz.ntmps57
  go_wp2
  all_goals (go_ret; exact ⟨ret_bool (by rw [Bool.eq_iff_iff]; simp [lw]; try omega), rfl⟩)
set_option maxHeartbeats 400000 in
theorem rl_upper (n : Int) (w : World) :
    Calls Tryz.prog 58 #[.int .u8 n] w fun e w' => e = .returned (.bool (up n)) ∧ w = w' := by
  go_enter Tryz.func58, Tryz.ntmps58
  go_wp2
  all_goals (go_ret; exact ⟨ret_bool (by rw [Bool.eq_iff_iff]; simp [up]; try omega), rfl⟩)
set_option maxHeartbeats 400000 in
theorem rl_digit (n : Int) (w : World) :
    Calls Tryz.prog 65 #[.int .u8 n] w fun e w' => e = .returned (.bool (dg n)) ∧ w = w' := by
  go_enter Tryz.func65, Tryz.ntmps65
  go_wp2
  all_goals (go_ret; exact ⟨ret_bool (by rw [Bool.eq_iff_iff]; simp [dg]; try omega), rfl⟩)
set_option maxHeartbeats 400000 in
theorem rl_good (n : Int) (w : World) :
    Calls Tryz.prog 95 #[.int .u8 n] w fun e w' => e = .returned (.bool (gd n)) ∧ w = w' := by
  go_enter Tryz.func95, Tryz.ntmps95
  go_wp2
  all_goals (go_ret; exact ⟨ret_bool (by rw [Bool.eq_iff_iff]; simp [gd, prn]; try omega), rfl⟩)
theorem sy_any (n : Int) (h0 : 0 ≤ n) (h1 : n ≤ 255) : anyR ⟨#[33, 35, 36, 37, 38, 42, 43, 46, 47, 60, 61, 62, 63, 64, 92, 94, 124, 45, 126, 58]⟩ n = sy n := (sy_mem n h0 h1).symm
set_option maxHeartbeats 400000 in
theorem rl_symbol (n : Int) (w : World) (h0 : 0 ≤ n) (h1 : n ≤ 255) :
    Calls Tryz.prog 60 #[.int .u8 n] w fun e w' => e = .returned (.bool (sy n)) ∧ w = w' := by
  have HV := Lib.hid (sy_any n h0 h1)
  go_enter Tryz.func60, Tryz.ntmps60
  go_wp2_with (first | (go_at_call 97; refine (rinL_any _ _ _ (by show 20 ≤ _; omega)).mono ?_; rw [HV.out]; rintro e w' ⟨rfl, rfl⟩))
  go_ret
  exact ⟨rfl, rfl⟩
set_option maxHeartbeats 400000 in
theorem rl_ident (n : Int) (w : World) :
    Calls Tryz.prog 118 #[.int .u8 n] w fun e w' => e = .returned (.bool (wd n)) ∧ w = w' := by
  obtain ⟨a, ha⟩ : ∃ a, lw n = a := ⟨_, rfl⟩
  obtain ⟨b, hb⟩ : ∃ b, up n = b := ⟨_, rfl⟩
  obtain ⟨c, hc⟩ : ∃ c, dg n = c := ⟨_, rfl⟩
  have HW : Hid (wd n = (a || b || c || (n == 39))) := Lib.hid (by unfold wd stt; rw [ha, hb, hc]; rw [Bool.eq_iff_iff]; simp)
  have HA := Lib.hid ha
  have HB := Lib.hid hb
  have HC := Lib.hid hc
  clear ha hb hc
  cases a <;> cases b <;> cases c
  all_goals
    go_enter Tryz.func118, Tryz.ntmps118
    go_wp2_with (first | (go_at_call 57; refine (rl_lower _ _).mono ?_; rw [HA.out]; rintro e w' ⟨rfl, rfl⟩) | (go_at_call 58; refine (rl_upper _ _).mono ?_; rw [HB.out]; rintro e w' ⟨rfl, rfl⟩) | (go_at_call 65; refine (rl_digit _ _).mono ?_; rw [HC.out]; rintro e w' ⟨rfl, rfl⟩))
    all_goals (go_ret; exact ⟨ret_bool (by rw [HW.out]; simp), rfl⟩)
/-- Where a run ends, one byte on. -/
theorem rE_go {p : Int → Bool} {s : ByteArray} {i : Nat} (h : i < s.size) (hp : p (byteAt s i) = true) : rE p s i = rE p s (i + 1) := by
  have k := rE_end p (s := s) (i := i + 1) (by omega)
  symm
  apply rE_of
  refine ⟨by have := k.lo; omega, k.hi, fun m h1 h2 => ?_, k.stop⟩
  by_cases e : m = i
  · rw [e]; exact hp
  · exact k.all m (by omega) h2
theorem rE_stop {p : Int → Bool} {s : ByteArray} {i : Nat} (hi : i ≤ s.size) (h : i < s.size → p (byteAt s i) = false) : rE p s i = i :=
  (rE_of ⟨Nat.le_refl _, hi, fun m h1 h2 => by omega, h⟩).symm
set_option maxHeartbeats 1000000 in
theorem rl_identRun (s : ByteArray) (i : Nat) (w : World) (hs : s.size ≤ 1000000) (hi : i ≤ s.size) :
    Calls Tryz.prog 96 #[.string s, .int .i64 i] w fun e w' => e = .returned (.int .i64 (rE wd s i : Nat)) ∧ w = w' := by
  obtain ⟨E, hE⟩ : ∃ E, rE wd s i = E := ⟨_, rfl⟩
  rw [hE]
  have HE := Lib.hid hE
  clear hE
  go_enter Tryz.func96, Tryz.ntmps96
  go_wp2
  go_loop [1] (fun v => ∃ k : Nat, k ≤ s.size ∧ v = .int .i64 k ∧ Hid (rE wd s k = E)) (fun v => s.size - (intOf v).toNat)
  case atStart => exact ⟨i, hi, rfl, HE⟩
  case round =>
    obtain ⟨k, hk, rfl, HK⟩ := hrel
    by_cases hlt : k < s.size
    · obtain ⟨y, hy⟩ : ∃ y, byteAt s k = y := ⟨_, rfl⟩
      have hSy : (((s[k]'hlt).toNat : Nat) : Int) = y := by rw [← byteAt_lt hlt]; exact hy
      obtain ⟨v, hv⟩ : ∃ v, wd y = v := ⟨_, rfl⟩
      have HV := Lib.hid hv
      cases v
      · have HF : Hid ((k : Int) = (E : Nat)) := Lib.hid (by rw [← HK.out, rE_stop hk (fun _ => by rw [hy]; exact hv)])
        clear hv hy
        go_wp2_with (first | (go_at_call 118; refine (rl_ident _ _).mono ?_; rw [HV.out]; rintro e w' ⟨rfl, rfl⟩))
        go_ret
        exact ⟨ret_int HF.out, rfl⟩
      · have HF : Hid (rE wd s (k + 1) = E) := Lib.hid (by rw [← HK.out, rE_go hlt (by rw [hy]; exact hv)])
        clear hv hy
        go_wp2_with (first | (go_at_call 118; refine (rl_ident _ _).mono ?_; rw [HV.out]; rintro e w' ⟨rfl, rfl⟩))
        exact ⟨⟨k + 1, by omega, by go_num, HF⟩, by simp [intOf]; omega⟩
    · have HF : Hid ((k : Int) = (E : Nat)) := Lib.hid (by rw [← HK.out, rE_stop hk (fun h => absurd h hlt)])
      go_wp2
      go_ret
      exact ⟨ret_int HF.out, rfl⟩
set_option maxHeartbeats 1000000 in
theorem rl_symbolRun (s : ByteArray) (i : Nat) (w : World) (hs : s.size ≤ 1000000) (hi : i ≤ s.size) :
    Calls Tryz.prog 61 #[.string s, .int .i64 i] w fun e w' => e = .returned (.int .i64 (rE sy s i : Nat)) ∧ w = w' := by
  obtain ⟨E, hE⟩ : ∃ E, rE sy s i = E := ⟨_, rfl⟩
  rw [hE]
  have HE := Lib.hid hE
  clear hE
  go_enter Tryz.func61, Tryz.ntmps61
  go_wp2
  go_loop [1] (fun v => ∃ k : Nat, k ≤ s.size ∧ v = .int .i64 k ∧ Hid (rE sy s k = E)) (fun v => s.size - (intOf v).toNat)
  case atStart => exact ⟨i, hi, rfl, HE⟩
  case round =>
    obtain ⟨k, hk, rfl, HK⟩ := hrel
    by_cases hlt : k < s.size
    · obtain ⟨y, hy⟩ : ∃ y, byteAt s k = y := ⟨_, rfl⟩
      have hSy : (((s[k]'hlt).toNat : Nat) : Int) = y := by rw [← byteAt_lt hlt]; exact hy
      have hyb : 0 ≤ y ∧ y ≤ 255 := by rw [← hy]; exact byteAt_bd s k
      obtain ⟨v, hv⟩ : ∃ v, sy y = v := ⟨_, rfl⟩
      have HV := Lib.hid hv
      cases v
      · have HF : Hid ((k : Int) = (E : Nat)) := Lib.hid (by rw [← HK.out, rE_stop hk (fun _ => by rw [hy]; exact hv)])
        clear hv hy
        go_wp2_with (first | (go_at_call 60; refine (rl_symbol _ _ hyb.1 hyb.2).mono ?_; rw [HV.out]; rintro e w' ⟨rfl, rfl⟩))
        go_ret
        exact ⟨ret_int HF.out, rfl⟩
      · have HF : Hid (rE sy s (k + 1) = E) := Lib.hid (by rw [← HK.out, rE_go hlt (by rw [hy]; exact hv)])
        clear hv hy
        go_wp2_with (first | (go_at_call 60; refine (rl_symbol _ _ hyb.1 hyb.2).mono ?_; rw [HV.out]; rintro e w' ⟨rfl, rfl⟩))
        exact ⟨⟨k + 1, by omega, by go_num, HF⟩, by simp [intOf]; omega⟩
    · have HF : Hid ((k : Int) = (E : Nat)) := Lib.hid (by rw [← HK.out, rE_stop hk (fun h => absurd h hlt)])
      go_wp2
      go_ret
      exact ⟨ret_int HF.out, rfl⟩
theorem om_stop {s : ByteArray} {k : Nat} (h : k < s.size) (hm : ((s[k].toNat : Int) == 45) = false) : om s.data.toList = false := by
  unfold om
  rw [all_stop h (p := mn) (by rw [mn_eq]; exact hm)]
  simp
set_option maxHeartbeats 1000000 in
theorem rl_minuses (s : ByteArray) (w : World) (hs : s.size ≤ 1000000) :
    Calls Tryz.prog 62 #[.string s] w fun e w' => e = .returned (.bool (om s.data.toList)) ∧ w = w' := by
  go_enter Tryz.func62, Tryz.ntmps62
  go_wp2
  go_loop [3] (fun i => ∃ k : Nat, k ≤ s.size ∧ i = .int .i64 k ∧ Hid ((s.data.toList.take k).all mn = true)) (fun i => s.size - (intOf i).toNat)
  case atStart => exact ⟨0, by omega, rfl, Lib.hid rfl⟩
  case round =>
    obtain ⟨k, hk, rfl, HN⟩ := hrel
    by_cases hlt : k < s.size
    · cases hm : ((s[k].toNat : Int) == 45)
      · have HK := Lib.hid (om_stop hlt hm)
        have hm' : ((s[k].toNat : Int) != 45) = true := by simpa using hm
        go_wp2
        go_ret
        exact ⟨ret_bool HK.out.symm, rfl⟩
      · have HK : Hid ((s.data.toList.take (k + 1)).all mn = true) := Lib.hid (all_step hlt (by rw [mn_eq]; exact hm) HN.out)
        have hm' : ((s[k].toNat : Int) != 45) = false := by simpa using hm
        go_wp2
        exact ⟨⟨k + 1, by omega, by go_num, HK⟩, by simp [intOf]; omega⟩
    · have HK : Hid (om s.data.toList = decide (2 ≤ (s.size : Int))) := Lib.hid (by
        have h := HN.out
        rw [take_end (by omega)] at h
        unfold om
        rw [h, Bool.and_true, ← Lib.size_eq, decide_eq_decide]
        omega)
      go_wp2
      go_ret
      exact ⟨ret_bool HK.out.symm, rfl⟩
def hexI (c : Int) : Int := if dg c then c - 48 else if 97 ≤ c ∧ c ≤ 102 then c - 87 else if 65 ≤ c ∧ c ≤ 70 then c - 55 else -1
theorem hexV_I (c : Int) : (hexV c = none ∧ hexI c = -1) ∨ (∃ d, hexV c = some d ∧ hexI c = d ∧ 0 ≤ d ∧ d ≤ 15) := by
  unfold hexV hexI
  by_cases h1 : dg c = true
  · rw [if_pos h1, if_pos h1]; have := dg_bd h1; exact .inr ⟨_, rfl, rfl, by omega, by omega⟩
  · rw [if_neg h1, if_neg h1]
    by_cases h2 : 97 ≤ c ∧ c ≤ 102
    · rw [if_pos h2, if_pos h2]; exact .inr ⟨_, rfl, rfl, by omega, by omega⟩
    · rw [if_neg h2, if_neg h2]
      by_cases h3 : 65 ≤ c ∧ c ≤ 70
      · rw [if_pos h3, if_pos h3]; exact .inr ⟨_, rfl, rfl, by omega, by omega⟩
      · rw [if_neg h3, if_neg h3]; exact .inl ⟨rfl, rfl⟩
set_option maxHeartbeats 1000000 in
theorem rl_hex (c v : Int) (w : World) (h0 : 0 ≤ c) (h1 : c ≤ 255) (hv : hexI c = v) :
    Calls Tryz.prog 119 #[.int .u8 c] w fun e w' => e = .returned (.int .i64 v) ∧ w = w' := by
  have hcs : (dg c = true ∧ 48 ≤ c ∧ c ≤ 57 ∧ v = c - 48) ∨ (dg c = false ∧ 97 ≤ c ∧ c ≤ 102 ∧ v = c - 87) ∨ (dg c = false ∧ 65 ≤ c ∧ c ≤ 70 ∧ v = c - 55) ∨ (dg c = false ∧ c < 65 ∧ v = -1) ∨ (dg c = false ∧ 70 < c ∧ c < 97 ∧ v = -1) ∨ (dg c = false ∧ 102 < c ∧ v = -1) := by
    unfold hexI at hv
    cases hd : dg c
    · rw [hd] at hv
      simp only [Bool.false_eq_true, if_false, false_and, true_and, false_or] at hv ⊢
      split at hv
      · omega
      · split at hv <;> omega
    · have := dg_bd hd
      rw [hd] at hv
      simp only [if_true] at hv
      exact .inl ⟨rfl, this.1, this.2, hv.symm⟩
  clear hv
  rcases hcs with ⟨hd, g1, g2, rfl⟩ | ⟨hd, g1, g2, rfl⟩ | ⟨hd, g1, g2, rfl⟩ | ⟨hd, g1, rfl⟩ | ⟨hd, g1, g2, rfl⟩ | ⟨hd, g1, rfl⟩
  all_goals
    have HD := Lib.hid hd
    clear hd
    go_enter Tryz.func119, Tryz.ntmps119
    go_wp2_with (first | (go_at_call 65; refine (rl_digit _ _).mono ?_; rw [HD.out]; rintro e w' ⟨rfl, rfl⟩))
    all_goals (go_ret; exact ⟨ret_int (by omega), rfl⟩)
/-- A unit, as a value: the token without a place; its end; the fault. -/
abbrev uV (op : Int) (q t : ByteArray) (n e code at' : Int) (nm : ByteArray) : Value := .agg #[.int .i64 op, .string q, .string t, .int .i64 n, .bool false, .int .i64 0, .int .i64 0, .int .i64 e, .int .i64 code, .int .i64 at', .string nm]
set_option maxRecDepth 100000 in
set_option maxHeartbeats 1000000 in
theorem rbad_p (code at' : Int) (nm : ByteArray) (w : World) :
    Calls Tryz.prog 70 #[.int .i64 code, .int .i64 at', .string nm] w fun e w' => e = .returned (uV 0 ⟨#[]⟩ ⟨#[]⟩ 0 0 code at' nm) ∧ Only (fun _ => False) w w' := by
  go_enter Tryz.func70, Tryz.ntmps70
  go_wp2
  refine bodyPost_ret (v := uV 0 ⟨#[]⟩ ⟨#[]⟩ 0 0 code at' nm) (by simp [results, Tryz.results70, go_sem]) rfl ⟨rfl, ?_⟩
  exact Only.of_below ((Below.refl _ _).alloc (Nat.le_refl _) _)
theorem pos_step (s : ByteArray) (k : Nat) : pos s (k + 1) = stepAt (byteAt s k) (pos s k) := by
  have e : pos s (k + 1) = stepAt (byteAt s (pos s k).at') (pos s k) := rfl
  rw [e, pos_at]
set_option maxHeartbeats 1000000 in
set_option maxRecDepth 100000 in
theorem rplace_p (s : ByteArray) (m : Nat) (w : World) (hs : s.size ≤ 1000000) (hm : m ≤ s.size) :
    Calls Tryz.prog 26 #[.string s, .int .i64 m] w fun e w' => e = .returned (.tuple #[.int .i64 (pos s m).line, .int .i64 (pos s m).col]) ∧ w = w' := by
  go_enter Tryz.func26, Tryz.ntmps26
  go_wp2
  go_loop [6, 7, 8] (fun l c i => ∃ k a b : Nat, k ≤ m ∧ i = .int .i64 k ∧ l = .int .i64 a ∧ c = .int .i64 b ∧ Hid ((pos s k).line = a ∧ (pos s k).col = b)) (fun _ _ i => m - (intOf i).toNat)
  case atStart => exact ⟨0, 1, 1, by omega, rfl, rfl, rfl, Lib.hid ⟨rfl, rfl⟩⟩
  case round =>
    obtain ⟨k, a, b, hk, rfl, rfl, rfl, HP⟩ := hrel
    by_cases hlt : k < m
    · have hks : k < s.size := by omega
      obtain ⟨y, hy⟩ : ∃ y, byteAt s k = y := ⟨_, rfl⟩
      have hSy : (((s[k]'hks).toNat : Nat) : Int) = y := by rw [← byteAt_lt hks]; exact hy
      obtain ⟨b1, b2, b3, b4⟩ := pos_bd s k
      rw [HP.out.1] at b1 b2
      rw [HP.out.2] at b3 b4
      have HST : Hid (pos s (k + 1) = stepAt y (pos s k)) := Lib.hid (by rw [pos_step, hy])
      clear hy
      by_cases h10 : y = 10
      · have e10 : (y == 10) = true := by simp [h10]
        have HN : Hid ((pos s (k + 1)).line = a + 1 ∧ (pos s (k + 1)).col = 1) := Lib.hid (by rw [HST.out, h10]; unfold stepAt; exact ⟨by rw [← HP.out.1]; rfl, rfl⟩)
        clear h10
        go_wp2
        exact ⟨⟨k + 1, a + 1, 1, by omega, by go_num, by go_num, rfl, HN⟩, by simp [intOf]; omega⟩
      by_cases h9 : y = 9
      · have e10 : (y == 10) = false := by simp [h9]
        have e9 : (y == 9) = true := by simp [h9]
        have HN : Hid ((pos s (k + 1)).line = a ∧ (pos s (k + 1)).col = (b - 1) / 8 * 8 + 9) := Lib.hid (by rw [HST.out, h9]; unfold stepAt; exact ⟨HP.out.1, by show (pos s k).col + (8 - ((pos s k).col - 1) % 8) = _; rw [HP.out.2]; omega⟩)
        clear h9 h10
        go_wp2
        exact ⟨⟨k + 1, a, (b - 1) / 8 * 8 + 9, by omega, by go_num, rfl, val_int (by omega), HN⟩, by simp [intOf]; omega⟩
      have e10 : (y == 10) = false := by simpa using h10
      have e9 : (y == 9) = false := by simpa using h9
      have HN : Hid ((pos s (k + 1)).line = a ∧ (pos s (k + 1)).col = b + 1) := Lib.hid (by rw [HST.out]; unfold stepAt; rw [if_neg h10, if_neg h9]; exact ⟨HP.out.1, by rw [← HP.out.2]⟩)
      clear h9 h10
      go_wp2
      exact ⟨⟨k + 1, a, b + 1, by omega, by go_num, rfl, by go_num, HN⟩, by simp [intOf]; omega⟩
    · have e : k = m := by omega
      subst e
      have HR : Hid (Value.tuple #[.int .i64 (pos s k).line, .int .i64 (pos s k).col] = .tuple #[.int .i64 a, .int .i64 b]) := Lib.hid (by rw [HP.out.1, HP.out.2])
      go_wp2
      go_ret2
      exact ⟨by rw [HR.out]; rfl, rfl⟩
end Go.Proofs.YtelichlplblboaaGreatDoor
