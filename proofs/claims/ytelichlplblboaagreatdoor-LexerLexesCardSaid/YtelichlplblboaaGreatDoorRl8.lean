/-
  WALKS. The reference's lexer: name.
-/
import Derived.Test.YtelichlplblboaaGreatDoorRl7
namespace Go.Proofs.YtelichlplblboaaGreatDoor
open Go.RowKit Go.Maps
/-- The value of a unit, with what it means. -/
def TRes (s : ByteArray) (o : RR Tk) (r : Ending) : Prop := ∃ (op : Int) (q t : ByteArray) (n e code a : Int) (nm : ByteArray), r = .returned (uV op q t n e code a nm) ∧ TPost s o (.returned (uV op q t n e code a nm))
theorem TPost.res {s : ByteArray} {o : RR Tk} {r : Ending} (h : TPost s o r) : TRes s o r := by
  cases o with
  | ok t j => exact ⟨_, _, _, _, _, _, _, _, h, rfl⟩
  | bad g => obtain ⟨code, a, nm, h1, h2, h3, h4⟩ := h; exact ⟨_, _, _, _, _, _, _, _, h1, code, a, nm, rfl, h2, h3, h4⟩
def wU (s : ByteArray) (fr e : Nat) : RR Tk := if 64 < e - fr then .bad (flt s 3 (s.extract fr (fr + 64)) fr) else .ok ⟨opo (cls (s.extract fr e)), nil8, s.extract fr e, 0⟩ e
def wQ (s : ByteArray) (fr a e : Nat) : RR Tk := if 64 < a - 1 - fr then .bad (flt s 3 (s.extract fr (fr + 64)) fr) else if 64 < e - a then .bad (flt s 3 (s.extract a (a + 64)) fr) else .ok ⟨opo (cls (s.extract a e)), s.extract fr (a - 1), s.extract a e, 0⟩ e
theorem rword_uR (s : ByteArray) (fr e : Nat) (R : RR Tk) (W w : World) (hq : Q W w) (hz : s.size ≤ 65536) (hae : fr ≤ e) (hes : e ≤ s.size) (h : wU s fr e = R) :
    Calls Tryz.prog 64 #[.string s, .int .i64 fr, .int .i64 fr, .int .i64 e] w fun r w' => TRes s R r ∧ Q W w' ∧ Only (fun _ => False) w w' := by
  subst h
  unfold wU
  by_cases hl : 64 < e - fr
  · rw [if_pos hl]
    exact (rword_ut s fr e hae hes w (by omega) hl).mono fun r w' ⟨he, ho⟩ => ⟨(TPost.bad' he (by decide) (by omega)).res, hq.only ho (fun _ h => h.elim), ho⟩
  · rw [if_neg hl]
    exact (rword_u s fr e hae hes W w hq (by omega) (by omega)).mono fun r w' ⟨he, hq', ho⟩ => ⟨TPost.res (o := .ok _ e) he, hq', ho⟩
theorem rword_qR (s : ByteArray) (fr a e : Nat) (R : RR Tk) (j : Int) (W w : World) (hq : Q W w) (hz : s.size ≤ 65536) (hj : j = (a : Int)) (hfa : fr < a) (hae : a ≤ e) (hes : e ≤ s.size) (h : wQ s fr a e = R) :
    Calls Tryz.prog 64 #[.string s, .int .i64 fr, .int .i64 j, .int .i64 e] w fun r w' => TRes s R r ∧ Q W w' ∧ Only (fun _ => False) w w' := by
  subst h hj
  unfold wQ
  by_cases hl : 64 < a - 1 - fr
  · rw [if_pos hl]
    exact (rword_ql s fr a e hfa hae hes w (by omega) hl).mono fun r w' ⟨he, ho⟩ => ⟨(TPost.bad' he (by decide) (by omega)).res, hq.only ho (fun _ h => h.elim), ho⟩
  rw [if_neg hl]
  by_cases hl2 : 64 < e - a
  · rw [if_pos hl2]
    exact (rword_qt s fr a e hfa hae hes (by omega) w (by omega) hl2).mono fun r w' ⟨he, ho⟩ => ⟨(TPost.bad' he (by decide) (by omega)).res, hq.only ho (fun _ h => h.elim), ho⟩
  · rw [if_neg hl2]
    exact (rword_q s fr a e hfa hae hes (by omega) W w hq (by omega) (by omega)).mono fun r w' ⟨he, hq', ho⟩ => ⟨TPost.res (o := .ok _ e) he, hq', ho⟩
theorem stt_not_sy' {c : Int} (h : stt c = true) (h0 : 0 ≤ c) (h1 : c ≤ 255) : sy c = false := by
  cases hs : sy c
  · rfl
  · have hc : ((UInt8.ofNat c.toNat).toNat : Int) = c := by simp; omega
    have := sy_not_stt (UInt8.ofNat c.toNat) (by unfold syB; rw [hc]; exact hs)
    unfold sttB at this
    rw [hc, h] at this
    cases this
theorem nE_stt {s : ByteArray} {i : Nat} (h : stt (byteAt s i) = true) : nE s i = rE wd s i := by unfold nE; rw [h]; rfl
theorem nE_sy {s : ByteArray} {i : Nat} (h : stt (byteAt s i) = false) : nE s i = rE sy s i := by unfold nE; rw [h]; rfl
theorem idR_u {s : ByteArray} {i : Nat} (hs : stt (byteAt s i) = true) (h : (up (byteAt s i) && decide (rE wd s i < s.size) && decide (byteAt s (rE wd s i) = 46) && qok (s.extract (rE wd s i + 1) (nE s (rE wd s i + 1)))) = false) : wU s i (rE wd s i) = idR s i := by
  unfold idR wU
  rw [h]
  simp only [Bool.false_eq_true, if_false]
  unfold nmR
  rw [nE_stt hs]
theorem idR_q {s : ByteArray} {i e : Nat} (h1 : up (byteAt s i) = true) (h2 : rE wd s i + 1 < s.size) (h3 : byteAt s (rE wd s i) = 46) (h4 : qok (s.extract (rE wd s i + 1) e) = true) (he : nE s (rE wd s i + 1) = e) : wQ s i (rE wd s i + 1) e = idR s i := by
  unfold idR wQ
  rw [h1, h3, he, h4, decide_eq_true (show rE wd s i < s.size by omega)]
  simp only [decide_true, Bool.and_self, if_true, Nat.add_sub_cancel]
  unfold nmR
  rw [he]
theorem ext_head {s : ByteArray} {a e : Nat} (h1 : a < e) (h2 : e ≤ s.size) : ∃ c r, (s.extract a e).data.toList = c :: r ∧ (c.toNat : Int) = byteAt s a := by
  have hz := ext_size (s := s) (Nat.le_of_lt h1) h2
  have ha : a < s.size := by omega
  cases hd : (s.extract a e).data.toList with
  | nil => rw [Lib.size_eq, hd] at hz; simp at hz; omega
  | cons c r =>
    refine ⟨c, r, rfl, ?_⟩
    have h0 : (s.extract a e).data.toList[0]? = some c := by rw [hd]; rfl
    have hs : 0 < (s.extract a e).size := by omega
    have h3 : (s.extract a e)[0]'hs = s[a] := by simp [ByteArray.getElem_extract]
    have h4 : (s.extract a e).data.toList[0]? = some ((s.extract a e)[0]'hs) := by
      rw [List.getElem?_eq_getElem (by rw [← Lib.size_eq]; exact hs)]; rfl
    rw [h4] at h0
    have := Option.some.inj h0
    rw [← this, h3, byteAt_lt ha]
theorem om_cons {c : UInt8} {r : List UInt8} (h : (c.toNat : Int) ≠ 45) : om (c :: r) = false := by
  have : mn c = false := by rw [mn_eq]; simpa using h
  unfold om; rw [List.all_cons, this]; simp
theorem qok_word {s : ByteArray} {a e : Nat} (h1 : a < e) (h2 : e ≤ s.size) (hs : stt (byteAt s a) = true) : qok (s.extract a e) = !(cls (s.extract a e) == 5) := by
  obtain ⟨c, r, hd, hc⟩ := ext_head h1 h2
  have hb := stt_bd hs
  have hst : sttB c = true := by unfold sttB; rw [hc]; exact hs
  have hsy : syB c = false := by
    cases h : syB c
    · rfl
    · have := sy_not_stt c h; rw [hst] at this; cases this
  have hns : symbolB (s.extract a e).data.toList = false := by unfold symbolB; rw [hd, List.all_cons, hsy]; simp
  have h6 : cls (s.extract a e) ≠ 6 := by
    unfold cls
    rw [hns]
    split
    · unfold clsW; split
      · omega
      · split <;> omega
    · simp only [Bool.false_eq_true, if_false]; split <;> omega
  have hom : om (s.extract a e).data.toList = false := by rw [hd]; exact om_cons (by omega)
  unfold qok
  rw [hom, hd]
  simp only [List.isEmpty_cons, Bool.not_false, Bool.true_and, Bool.and_true]
  have : (cls (s.extract a e) != 6) = true := by simpa using h6
  rw [this, Bool.and_true]
  rfl
theorem qok_sym {s : ByteArray} {a e : Nat} (h1 : a < e) (h2 : e ≤ s.size) (hs : stt (byteAt s a) = false) : qok (s.extract a e) = (!(cls (s.extract a e) == 6) && !om (s.extract a e).data.toList) := by
  obtain ⟨c, r, hd, hc⟩ := ext_head h1 h2
  have hst : sttB c = false := by unfold sttB; rw [hc]; exact hs
  have hnw : wordB (s.extract a e).data.toList = false := by unfold wordB; rw [hd]; simp [hst]
  have h5 : cls (s.extract a e) ≠ 5 := by
    unfold cls
    rw [hnw]
    simp only [Bool.false_eq_true, if_false]
    split
    · unfold clsS; split
      · omega
      · split <;> omega
    · split <;> omega
  unfold qok
  have h5' : (cls (s.extract a e) != 5) = true := by simpa using h5
  have hne : (s.extract a e).data.toList.isEmpty = false := by rw [hd]; rfl
  rw [hne, h5']
  simp only [Bool.not_false, Bool.true_and]
  rfl
theorem qok_nil {s : ByteArray} {a e : Nat} (h : e ≤ a) : qok (s.extract a e) = false := by
  have : (s.extract a e).data.toList = [] := by
    rw [Lib.extract_eq, show e - a = 0 by omega]; simp
  unfold qok; rw [this]; rfl
set_option maxRecDepth 100000 in
set_option maxHeartbeats 4000000 in
theorem rname_1 (s : ByteArray) (i E : Nat) (R : RR Tk) (W w : World) (hq : Q W w) (hz : s.size ≤ 65536) (hs : stt (byteAt s i) = true) (hE : rE wd s i = E) (hR : wU s i E = R) (hu : up (byteAt s i) = false) :
    Calls Tryz.prog 59 #[.string s, .int .i64 i] w fun r w' => TRes s R r ∧ Q W w' ∧ Only (fun _ => False) w w' := by
  have hil : i < s.size := stt_pos hs
  have hi : i ≤ s.size := Nat.le_of_lt hil
  have hiE : i ≤ E := by rw [← hE]; exact (rE_end wd hi).lo
  have hEs : E ≤ s.size := by rw [← hE]; exact (rE_end wd hi).hi
  have hq0 : Q W (uZ w) := hq.only (uA_only w _ _ _ _ _ _ _ _) (fun _ h => h.elim)
  obtain ⟨y, hy⟩ : ∃ y, byteAt s i = y := ⟨_, rfl⟩
  have hSy : (((s[i]'hil).toNat : Nat) : Int) = y := by rw [← byteAt_lt hil]; exact hy
  have HE : Hid (rE wd s i = E) := Lib.hid hE
  have HR : Hid (wU s i E = R) := Lib.hid hR
  have HU : Hid (up y = false) := Lib.hid (by rw [← hy]; exact hu)
  clear hE hR hu hy
  go_enter Tryz.func59, Tryz.ntmps59
  go_wp2_with (go_loud (first | (go_at_call 96; ((with_reducible refine (rl_identRun s i _ (by omega) hi).mono ?_); rw [HE.out]; rintro r w' ⟨rfl, rfl⟩)) | (go_at_call 58; ((with_reducible refine (rl_upper y _).mono ?_); rw [HU.out]; rintro r w' ⟨rfl, rfl⟩)) | (go_at_call 64; ((with_reducible refine (rword_uR s i E R W _ hq0 hz hiE hEs HR.out).mono ?_); rintro r w1 ⟨⟨op1, q1, t1, n1, e1, code1, a1, nm1, rfl, hT1⟩, hq1, hO1⟩; have hU1 := (UX.new w 0 ⟨#[]⟩ ⟨#[]⟩ 0 0 0 0 ⟨#[]⟩).keep hO1; obtain ⟨c0, c1, c2, c3, c4, c5, c6, c7, c8, c9, c10⟩ := hU1.cells; have z0 := hU1.fz 0; have z1 := hU1.fz 1; have z2 := hU1.fz 2; have z3 := hU1.fz 3; have z4 := hU1.fz 4; have z5 := hU1.fz 5; have z6 := hU1.fz 6; have z7 := hU1.fz 7; have z8 := hU1.fz 8; have z9 := hU1.fz 9; have z10 := hU1.fz 10))))
  exact bodyPost_ret (v := uV op1 q1 t1 n1 e1 code1 a1 nm1) (by simp [results, Tryz.results59, go_sem, c0, c1, c2, c3, c4, c5, c6, c7, c8, c9, c10]) rfl ⟨hT1.res, (fun hF => ⟨hq.only hF (fun _ h => h.elim), hF⟩) (own_set ((uA_only w _ _ _ _ _ _ _ _).trans hO1) (Nat.le_refl _) _ _ _ _ _ _ _ _ _ _ _)⟩
set_option maxRecDepth 100000 in
set_option maxHeartbeats 4000000 in
theorem rname_2 (s : ByteArray) (i E : Nat) (R : RR Tk) (W w : World) (hq : Q W w) (hz : s.size ≤ 65536) (hs : stt (byteAt s i) = true) (hE : rE wd s i = E) (hR : wU s i E = R) (hu : up (byteAt s i) = true) (h2 : ¬ E + 1 < s.size) :
    Calls Tryz.prog 59 #[.string s, .int .i64 i] w fun r w' => TRes s R r ∧ Q W w' ∧ Only (fun _ => False) w w' := by
  have hil : i < s.size := stt_pos hs
  have hi : i ≤ s.size := Nat.le_of_lt hil
  have hiE : i ≤ E := by rw [← hE]; exact (rE_end wd hi).lo
  have hEs : E ≤ s.size := by rw [← hE]; exact (rE_end wd hi).hi
  have hq0 : Q W (uZ w) := hq.only (uA_only w _ _ _ _ _ _ _ _) (fun _ h => h.elim)
  obtain ⟨y, hy⟩ : ∃ y, byteAt s i = y := ⟨_, rfl⟩
  have hSy : (((s[i]'hil).toNat : Nat) : Int) = y := by rw [← byteAt_lt hil]; exact hy
  have HE : Hid (rE wd s i = E) := Lib.hid hE
  have HR : Hid (wU s i E = R) := Lib.hid hR
  have HU : Hid (up y = true) := Lib.hid (by rw [← hy]; exact hu)
  have h2' : s.size ≤ E + 1 := by omega
  clear hE hR hu hy h2
  go_enter Tryz.func59, Tryz.ntmps59
  go_wp2_with (go_loud (first | (go_at_call 96; ((with_reducible refine (rl_identRun s i _ (by omega) hi).mono ?_); rw [HE.out]; rintro r w' ⟨rfl, rfl⟩)) | (go_at_call 58; ((with_reducible refine (rl_upper y _).mono ?_); rw [HU.out]; rintro r w' ⟨rfl, rfl⟩)) | (go_at_call 64; ((with_reducible refine (rword_uR s i E R W _ hq0 hz hiE hEs HR.out).mono ?_); rintro r w1 ⟨⟨op1, q1, t1, n1, e1, code1, a1, nm1, rfl, hT1⟩, hq1, hO1⟩; have hU1 := (UX.new w 0 ⟨#[]⟩ ⟨#[]⟩ 0 0 0 0 ⟨#[]⟩).keep hO1; obtain ⟨c0, c1, c2, c3, c4, c5, c6, c7, c8, c9, c10⟩ := hU1.cells; have z0 := hU1.fz 0; have z1 := hU1.fz 1; have z2 := hU1.fz 2; have z3 := hU1.fz 3; have z4 := hU1.fz 4; have z5 := hU1.fz 5; have z6 := hU1.fz 6; have z7 := hU1.fz 7; have z8 := hU1.fz 8; have z9 := hU1.fz 9; have z10 := hU1.fz 10))))
  exact bodyPost_ret (v := uV op1 q1 t1 n1 e1 code1 a1 nm1) (by simp [results, Tryz.results59, go_sem, c0, c1, c2, c3, c4, c5, c6, c7, c8, c9, c10]) rfl ⟨hT1.res, (fun hF => ⟨hq.only hF (fun _ h => h.elim), hF⟩) (own_set ((uA_only w _ _ _ _ _ _ _ _).trans hO1) (Nat.le_refl _) _ _ _ _ _ _ _ _ _ _ _)⟩
set_option maxRecDepth 100000 in
set_option maxHeartbeats 4000000 in
theorem rname_3 (s : ByteArray) (i E : Nat) (R : RR Tk) (W w : World) (hq : Q W w) (hz : s.size ≤ 65536) (hs : stt (byteAt s i) = true) (hE : rE wd s i = E) (hR : wU s i E = R) (hu : up (byteAt s i) = true) (h2 : E + 1 < s.size) (h3 : byteAt s E ≠ 46) :
    Calls Tryz.prog 59 #[.string s, .int .i64 i] w fun r w' => TRes s R r ∧ Q W w' ∧ Only (fun _ => False) w w' := by
  have hil : i < s.size := stt_pos hs
  have hi : i ≤ s.size := Nat.le_of_lt hil
  have hiE : i ≤ E := by rw [← hE]; exact (rE_end wd hi).lo
  have hEs : E ≤ s.size := by rw [← hE]; exact (rE_end wd hi).hi
  have hq0 : Q W (uZ w) := hq.only (uA_only w _ _ _ _ _ _ _ _) (fun _ h => h.elim)
  obtain ⟨y, hy⟩ : ∃ y, byteAt s i = y := ⟨_, rfl⟩
  have hSy : (((s[i]'hil).toNat : Nat) : Int) = y := by rw [← byteAt_lt hil]; exact hy
  have HE : Hid (rE wd s i = E) := Lib.hid hE
  have HR : Hid (wU s i E = R) := Lib.hid hR
  have HU : Hid (up y = true) := Lib.hid (by rw [← hy]; exact hu)
  have hEl : E < s.size := by omega
  obtain ⟨x, hx⟩ : ∃ x, byteAt s E = x := ⟨_, rfl⟩
  have hSx : (((s[E]'hEl).toNat : Nat) : Int) = x := by rw [← byteAt_lt hEl]; exact hx
  have ex : (x == 46) = false := by rw [← hx]; simpa using h3
  clear hE hR hu hy hx h3
  go_enter Tryz.func59, Tryz.ntmps59
  go_wp2_with (go_loud (first | (go_at_call 96; ((with_reducible refine (rl_identRun s i _ (by omega) hi).mono ?_); rw [HE.out]; rintro r w' ⟨rfl, rfl⟩)) | (go_at_call 58; ((with_reducible refine (rl_upper y _).mono ?_); rw [HU.out]; rintro r w' ⟨rfl, rfl⟩)) | (go_at_call 64; ((with_reducible refine (rword_uR s i E R W _ hq0 hz hiE hEs HR.out).mono ?_); rintro r w1 ⟨⟨op1, q1, t1, n1, e1, code1, a1, nm1, rfl, hT1⟩, hq1, hO1⟩; have hU1 := (UX.new w 0 ⟨#[]⟩ ⟨#[]⟩ 0 0 0 0 ⟨#[]⟩).keep hO1; obtain ⟨c0, c1, c2, c3, c4, c5, c6, c7, c8, c9, c10⟩ := hU1.cells; have z0 := hU1.fz 0; have z1 := hU1.fz 1; have z2 := hU1.fz 2; have z3 := hU1.fz 3; have z4 := hU1.fz 4; have z5 := hU1.fz 5; have z6 := hU1.fz 6; have z7 := hU1.fz 7; have z8 := hU1.fz 8; have z9 := hU1.fz 9; have z10 := hU1.fz 10))))
  exact bodyPost_ret (v := uV op1 q1 t1 n1 e1 code1 a1 nm1) (by simp [results, Tryz.results59, go_sem, c0, c1, c2, c3, c4, c5, c6, c7, c8, c9, c10]) rfl ⟨hT1.res, (fun hF => ⟨hq.only hF (fun _ h => h.elim), hF⟩) (own_set ((uA_only w _ _ _ _ _ _ _ _).trans hO1) (Nat.le_refl _) _ _ _ _ _ _ _ _ _ _ _)⟩
theorem rl_identRunj (s : ByteArray) (i : Nat) (j : Int) (w : World) (hj : j = (i : Int)) (hs : s.size ≤ 1000000) (hi : i ≤ s.size) :
    Calls Tryz.prog 96 #[.string s, .int .i64 j] w fun e w' => e = .returned (.int .i64 (rE wd s i : Nat)) ∧ w = w' := by subst hj; exact rl_identRun s i w hs hi
theorem rl_symbolRunj (s : ByteArray) (i : Nat) (j : Int) (w : World) (hj : j = (i : Int)) (hs : s.size ≤ 1000000) (hi : i ≤ s.size) :
    Calls Tryz.prog 61 #[.string s, .int .i64 j] w fun e w' => e = .returned (.int .i64 (rE sy s i : Nat)) ∧ w = w' := by subst hj; exact rl_symbolRun s i w hs hi
set_option maxRecDepth 100000 in
set_option maxHeartbeats 8000000 in
theorem rname_4 (s : ByteArray) (i E : Nat) (R : RR Tk) (W w : World) (hq : Q W w) (hz : s.size ≤ 65536) (hs : stt (byteAt s i) = true) (hE : rE wd s i = E) (hR : wQ s i (E + 1) (rE wd s (E + 1)) = R) (hu : up (byteAt s i) = true) (h2 : E + 1 < s.size) (h3 : byteAt s E = 46) (hc1 : stt (byteAt s (E + 1)) = true) (hne : cls (s.extract (E + 1) (rE wd s (E + 1))) ≠ 5) :
    Calls Tryz.prog 59 #[.string s, .int .i64 i] w fun r w' => TRes s R r ∧ Q W w' ∧ Only (fun _ => False) w w' := by
  have hil : i < s.size := stt_pos hs
  have hi : i ≤ s.size := Nat.le_of_lt hil
  have hiE : i ≤ E := by rw [← hE]; exact (rE_end wd hi).lo
  have hEs : E ≤ s.size := by rw [← hE]; exact (rE_end wd hi).hi
  have hq0 : Q W (uZ w) := hq.only (uA_only w _ _ _ _ _ _ _ _) (fun _ h => h.elim)
  obtain ⟨y, hy⟩ : ∃ y, byteAt s i = y := ⟨_, rfl⟩
  have hSy : (((s[i]'hil).toNat : Nat) : Int) = y := by rw [← byteAt_lt hil]; exact hy
  have HE : Hid (rE wd s i = E) := Lib.hid hE
  have HU : Hid (up y = true) := Lib.hid (by rw [← hy]; exact hu)
  have hEl : E < s.size := by omega
  obtain ⟨x, hx⟩ : ∃ x, byteAt s E = x := ⟨_, rfl⟩
  have hSx : (((s[E]'hEl).toNat : Nat) : Int) = x := by rw [← byteAt_lt hEl]; exact hx
  obtain rfl : x = 46 := by rw [← hx]; exact h3
  obtain ⟨v, hv⟩ : ∃ v, byteAt s (E + 1) = v := ⟨_, rfl⟩
  have hSv : (((s[E + 1]'h2).toNat : Nat) : Int) = v := by rw [← byteAt_lt h2]; exact hv
  have hvb := byteAt_bd s (E + 1)
  rw [hv] at hvb
  obtain ⟨F, hF⟩ : ∃ F, rE wd s (E + 1) = F := ⟨_, rfl⟩
  have hEF : E + 1 ≤ F := by rw [← hF]; exact (rE_end wd (Nat.le_of_lt h2)).lo
  have hFs : F ≤ s.size := by rw [← hF]; exact (rE_end wd (Nat.le_of_lt h2)).hi
  obtain ⟨T, hT⟩ : ∃ T, s.extract (E + 1) F = T := ⟨_, rfl⟩
  have hTz : T.size ≤ 65536 := by rw [← hT, ext_size hEF hFs]; omega
  obtain ⟨c, hc⟩ : ∃ c, cls T = c := ⟨_, rfl⟩
  have HF := Lib.hid hF
  have HC := Lib.hid hc
  have HR : Hid (wQ s i (E + 1) F = R) := Lib.hid (by rw [← hF]; exact hR)
  have ec : (c != 5) = true := by rw [← hc, ← hT, ← hF]; simpa using hne
  have HVS : Hid (sy v = false) := Lib.hid (stt_not_sy' (by rw [← hv]; exact hc1) hvb.1 hvb.2)
  have hlu : lw v = true ∨ (lw v = false ∧ up v = true) := by
    rw [hv] at hc1
    unfold stt at hc1
    cases h : lw v
    · rw [h] at hc1; exact .inr ⟨rfl, by simpa using hc1⟩
    · exact .inl rfl
  clear hE hR hu hy hx h3 hv hc1 hne hc hF
  rcases hlu with hl | ⟨hl, hu2⟩
  · have HVL := Lib.hid hl
    clear hl
    go_enter Tryz.func59, Tryz.ntmps59
    go_wp2_with (go_loud (first | (go_at_call 96; ((with_reducible refine (rl_identRun s i _ (by omega) hi).mono ?_); rw [HE.out]; rintro r w' ⟨rfl, rfl⟩)) | (go_at_call 58; ((with_reducible refine (rl_upper y _).mono ?_); rw [HU.out]; rintro r w' ⟨rfl, rfl⟩)) | (go_at_call 57; ((with_reducible refine (rl_lower v _).mono ?_); rw [HVL.out]; rintro r w' ⟨rfl, rfl⟩)) | (go_at_call 96; ((with_reducible refine (rl_identRunj s (E + 1) _ _ (by omega) (by omega) (by omega)).mono ?_); rw [HF.out]; rintro r w' ⟨rfl, rfl⟩)) | (go_at_call 78; ((with_reducible refine (rClassL_v T c W _ (by omega) HC.out hq0).mono ?_); rintro r w5 ⟨rfl, hq5, hO5⟩)) | (go_at_call 60; ((with_reducible refine (rl_symbol v _ hvb.1 hvb.2).mono ?_); rw [HVS.out]; rintro r w' ⟨rfl, rfl⟩)) | (go_at_call 64; ((with_reducible refine (rword_qR s i (E + 1) F R _ W _ hq5 hz (by omega) (by omega) hEF hFs HR.out).mono ?_); rintro r w1 ⟨⟨op1, q1, t1, n1, e1, code1, a1, nm1, rfl, hT1⟩, hq1, hO1⟩; have hU1 := (UX.new w 0 ⟨#[]⟩ ⟨#[]⟩ 0 0 0 0 ⟨#[]⟩).keep (hO5.trans hO1); obtain ⟨c0, c1, c2, c3, c4, c5, c6, c7, c8, c9, c10⟩ := hU1.cells; have z0 := hU1.fz 0; have z1 := hU1.fz 1; have z2 := hU1.fz 2; have z3 := hU1.fz 3; have z4 := hU1.fz 4; have z5 := hU1.fz 5; have z6 := hU1.fz 6; have z7 := hU1.fz 7; have z8 := hU1.fz 8; have z9 := hU1.fz 9; have z10 := hU1.fz 10))))
    exact bodyPost_ret (v := uV op1 q1 t1 n1 e1 code1 a1 nm1) (by simp [results, Tryz.results59, go_sem, c0, c1, c2, c3, c4, c5, c6, c7, c8, c9, c10]) rfl ⟨hT1.res, (fun hF => ⟨hq.only hF (fun _ h => h.elim), hF⟩) (own_set ((uA_only w _ _ _ _ _ _ _ _).trans (hO5.trans hO1)) (Nat.le_refl _) _ _ _ _ _ _ _ _ _ _ _)⟩
  · have HVL := Lib.hid hl
    have HVU := Lib.hid hu2
    clear hl hu2
    go_enter Tryz.func59, Tryz.ntmps59
    go_wp2_with (go_loud (first | (go_at_call 96; ((with_reducible refine (rl_identRun s i _ (by omega) hi).mono ?_); rw [HE.out]; rintro r w' ⟨rfl, rfl⟩)) | (go_at_call 58; ((with_reducible refine (rl_upper y _).mono ?_); rw [HU.out]; rintro r w' ⟨rfl, rfl⟩)) | (go_at_call 57; ((with_reducible refine (rl_lower v _).mono ?_); rw [HVL.out]; rintro r w' ⟨rfl, rfl⟩)) | (go_at_call 58; ((with_reducible refine (rl_upper v _).mono ?_); rw [HVU.out]; rintro r w' ⟨rfl, rfl⟩)) | (go_at_call 96; ((with_reducible refine (rl_identRunj s (E + 1) _ _ (by omega) (by omega) (by omega)).mono ?_); rw [HF.out]; rintro r w' ⟨rfl, rfl⟩)) | (go_at_call 78; ((with_reducible refine (rClassL_v T c W _ (by omega) HC.out hq0).mono ?_); rintro r w5 ⟨rfl, hq5, hO5⟩)) | (go_at_call 60; ((with_reducible refine (rl_symbol v _ hvb.1 hvb.2).mono ?_); rw [HVS.out]; rintro r w' ⟨rfl, rfl⟩)) | (go_at_call 64; ((with_reducible refine (rword_qR s i (E + 1) F R _ W _ hq5 hz (by omega) (by omega) hEF hFs HR.out).mono ?_); rintro r w1 ⟨⟨op1, q1, t1, n1, e1, code1, a1, nm1, rfl, hT1⟩, hq1, hO1⟩; have hU1 := (UX.new w 0 ⟨#[]⟩ ⟨#[]⟩ 0 0 0 0 ⟨#[]⟩).keep (hO5.trans hO1); obtain ⟨c0, c1, c2, c3, c4, c5, c6, c7, c8, c9, c10⟩ := hU1.cells; have z0 := hU1.fz 0; have z1 := hU1.fz 1; have z2 := hU1.fz 2; have z3 := hU1.fz 3; have z4 := hU1.fz 4; have z5 := hU1.fz 5; have z6 := hU1.fz 6; have z7 := hU1.fz 7; have z8 := hU1.fz 8; have z9 := hU1.fz 9; have z10 := hU1.fz 10))))
    exact bodyPost_ret (v := uV op1 q1 t1 n1 e1 code1 a1 nm1) (by simp [results, Tryz.results59, go_sem, c0, c1, c2, c3, c4, c5, c6, c7, c8, c9, c10]) rfl ⟨hT1.res, (fun hF => ⟨hq.only hF (fun _ h => h.elim), hF⟩) (own_set ((uA_only w _ _ _ _ _ _ _ _).trans (hO5.trans hO1)) (Nat.le_refl _) _ _ _ _ _ _ _ _ _ _ _)⟩
set_option maxRecDepth 100000 in
set_option maxHeartbeats 8000000 in
theorem rname_5 (s : ByteArray) (i E : Nat) (R : RR Tk) (W w : World) (hq : Q W w) (hz : s.size ≤ 65536) (hs : stt (byteAt s i) = true) (hE : rE wd s i = E) (hR : wU s i E = R) (hu : up (byteAt s i) = true) (h2 : E + 1 < s.size) (h3 : byteAt s E = 46) (hc1 : stt (byteAt s (E + 1)) = true) (hne : cls (s.extract (E + 1) (rE wd s (E + 1))) = 5) :
    Calls Tryz.prog 59 #[.string s, .int .i64 i] w fun r w' => TRes s R r ∧ Q W w' ∧ Only (fun _ => False) w w' := by
  have hil : i < s.size := stt_pos hs
  have hi : i ≤ s.size := Nat.le_of_lt hil
  have hiE : i ≤ E := by rw [← hE]; exact (rE_end wd hi).lo
  have hEs : E ≤ s.size := by rw [← hE]; exact (rE_end wd hi).hi
  have hq0 : Q W (uZ w) := hq.only (uA_only w _ _ _ _ _ _ _ _) (fun _ h => h.elim)
  obtain ⟨y, hy⟩ : ∃ y, byteAt s i = y := ⟨_, rfl⟩
  have hSy : (((s[i]'hil).toNat : Nat) : Int) = y := by rw [← byteAt_lt hil]; exact hy
  have HE : Hid (rE wd s i = E) := Lib.hid hE
  have HR : Hid (wU s i E = R) := Lib.hid hR
  have HU : Hid (up y = true) := Lib.hid (by rw [← hy]; exact hu)
  have hEl : E < s.size := by omega
  obtain ⟨x, hx⟩ : ∃ x, byteAt s E = x := ⟨_, rfl⟩
  have hSx : (((s[E]'hEl).toNat : Nat) : Int) = x := by rw [← byteAt_lt hEl]; exact hx
  obtain rfl : x = 46 := by rw [← hx]; exact h3
  obtain ⟨v, hv⟩ : ∃ v, byteAt s (E + 1) = v := ⟨_, rfl⟩
  have hSv : (((s[E + 1]'h2).toNat : Nat) : Int) = v := by rw [← byteAt_lt h2]; exact hv
  have hvb := byteAt_bd s (E + 1)
  rw [hv] at hvb
  obtain ⟨F, hF⟩ : ∃ F, rE wd s (E + 1) = F := ⟨_, rfl⟩
  have hEF : E + 1 ≤ F := by rw [← hF]; exact (rE_end wd (Nat.le_of_lt h2)).lo
  have hFs : F ≤ s.size := by rw [← hF]; exact (rE_end wd (Nat.le_of_lt h2)).hi
  obtain ⟨T, hT⟩ : ∃ T, s.extract (E + 1) F = T := ⟨_, rfl⟩
  have hTz : T.size ≤ 65536 := by rw [← hT, ext_size hEF hFs]; omega
  obtain ⟨c, hc⟩ : ∃ c, cls T = c := ⟨_, rfl⟩
  have HF := Lib.hid hF
  have HC := Lib.hid hc
  have ec : (c != 5) = false := by rw [← hc, ← hT, ← hF]; simpa using hne
  have HVS : Hid (sy v = false) := Lib.hid (stt_not_sy' (by rw [← hv]; exact hc1) hvb.1 hvb.2)
  have hlu : lw v = true ∨ (lw v = false ∧ up v = true) := by
    rw [hv] at hc1
    unfold stt at hc1
    cases h : lw v
    · rw [h] at hc1; exact .inr ⟨rfl, by simpa using hc1⟩
    · exact .inl rfl
  clear hE hR hu hy hx h3 hv hc1 hne hc hF
  rcases hlu with hl | ⟨hl, hu2⟩
  · have HVL := Lib.hid hl
    clear hl
    go_enter Tryz.func59, Tryz.ntmps59
    go_wp2_with (go_loud (first | (go_at_call 96; ((with_reducible refine (rl_identRun s i _ (by omega) hi).mono ?_); rw [HE.out]; rintro r w' ⟨rfl, rfl⟩)) | (go_at_call 58; ((with_reducible refine (rl_upper y _).mono ?_); rw [HU.out]; rintro r w' ⟨rfl, rfl⟩)) | (go_at_call 57; ((with_reducible refine (rl_lower v _).mono ?_); rw [HVL.out]; rintro r w' ⟨rfl, rfl⟩)) | (go_at_call 96; ((with_reducible refine (rl_identRunj s (E + 1) _ _ (by omega) (by omega) (by omega)).mono ?_); rw [HF.out]; rintro r w' ⟨rfl, rfl⟩)) | (go_at_call 78; ((with_reducible refine (rClassL_v T c W _ (by omega) HC.out hq0).mono ?_); rintro r w5 ⟨rfl, hq5, hO5⟩)) | (go_at_call 60; ((with_reducible refine (rl_symbol v _ hvb.1 hvb.2).mono ?_); rw [HVS.out]; rintro r w' ⟨rfl, rfl⟩)) | (go_at_call 64; ((with_reducible refine (rword_uR s i E R W _ hq5 hz hiE hEs HR.out).mono ?_); rintro r w1 ⟨⟨op1, q1, t1, n1, e1, code1, a1, nm1, rfl, hT1⟩, hq1, hO1⟩; have hU1 := (UX.new w 0 ⟨#[]⟩ ⟨#[]⟩ 0 0 0 0 ⟨#[]⟩).keep (hO5.trans hO1); obtain ⟨c0, c1, c2, c3, c4, c5, c6, c7, c8, c9, c10⟩ := hU1.cells; have z0 := hU1.fz 0; have z1 := hU1.fz 1; have z2 := hU1.fz 2; have z3 := hU1.fz 3; have z4 := hU1.fz 4; have z5 := hU1.fz 5; have z6 := hU1.fz 6; have z7 := hU1.fz 7; have z8 := hU1.fz 8; have z9 := hU1.fz 9; have z10 := hU1.fz 10))))
    exact bodyPost_ret (v := uV op1 q1 t1 n1 e1 code1 a1 nm1) (by simp [results, Tryz.results59, go_sem, c0, c1, c2, c3, c4, c5, c6, c7, c8, c9, c10]) rfl ⟨hT1.res, (fun hF => ⟨hq.only hF (fun _ h => h.elim), hF⟩) (own_set ((uA_only w _ _ _ _ _ _ _ _).trans (hO5.trans hO1)) (Nat.le_refl _) _ _ _ _ _ _ _ _ _ _ _)⟩
  · have HVL := Lib.hid hl
    have HVU := Lib.hid hu2
    clear hl hu2
    go_enter Tryz.func59, Tryz.ntmps59
    go_wp2_with (go_loud (first | (go_at_call 96; ((with_reducible refine (rl_identRun s i _ (by omega) hi).mono ?_); rw [HE.out]; rintro r w' ⟨rfl, rfl⟩)) | (go_at_call 58; ((with_reducible refine (rl_upper y _).mono ?_); rw [HU.out]; rintro r w' ⟨rfl, rfl⟩)) | (go_at_call 57; ((with_reducible refine (rl_lower v _).mono ?_); rw [HVL.out]; rintro r w' ⟨rfl, rfl⟩)) | (go_at_call 58; ((with_reducible refine (rl_upper v _).mono ?_); rw [HVU.out]; rintro r w' ⟨rfl, rfl⟩)) | (go_at_call 96; ((with_reducible refine (rl_identRunj s (E + 1) _ _ (by omega) (by omega) (by omega)).mono ?_); rw [HF.out]; rintro r w' ⟨rfl, rfl⟩)) | (go_at_call 78; ((with_reducible refine (rClassL_v T c W _ (by omega) HC.out hq0).mono ?_); rintro r w5 ⟨rfl, hq5, hO5⟩)) | (go_at_call 60; ((with_reducible refine (rl_symbol v _ hvb.1 hvb.2).mono ?_); rw [HVS.out]; rintro r w' ⟨rfl, rfl⟩)) | (go_at_call 64; ((with_reducible refine (rword_uR s i E R W _ hq5 hz hiE hEs HR.out).mono ?_); rintro r w1 ⟨⟨op1, q1, t1, n1, e1, code1, a1, nm1, rfl, hT1⟩, hq1, hO1⟩; have hU1 := (UX.new w 0 ⟨#[]⟩ ⟨#[]⟩ 0 0 0 0 ⟨#[]⟩).keep (hO5.trans hO1); obtain ⟨c0, c1, c2, c3, c4, c5, c6, c7, c8, c9, c10⟩ := hU1.cells; have z0 := hU1.fz 0; have z1 := hU1.fz 1; have z2 := hU1.fz 2; have z3 := hU1.fz 3; have z4 := hU1.fz 4; have z5 := hU1.fz 5; have z6 := hU1.fz 6; have z7 := hU1.fz 7; have z8 := hU1.fz 8; have z9 := hU1.fz 9; have z10 := hU1.fz 10))))
    exact bodyPost_ret (v := uV op1 q1 t1 n1 e1 code1 a1 nm1) (by simp [results, Tryz.results59, go_sem, c0, c1, c2, c3, c4, c5, c6, c7, c8, c9, c10]) rfl ⟨hT1.res, (fun hF => ⟨hq.only hF (fun _ h => h.elim), hF⟩) (own_set ((uA_only w _ _ _ _ _ _ _ _).trans (hO5.trans hO1)) (Nat.le_refl _) _ _ _ _ _ _ _ _ _ _ _)⟩
set_option maxRecDepth 100000 in
set_option maxHeartbeats 8000000 in
theorem rname_6 (s : ByteArray) (i E : Nat) (R : RR Tk) (W w : World) (hq : Q W w) (hz : s.size ≤ 65536) (hs : stt (byteAt s i) = true) (hE : rE wd s i = E) (hR : wQ s i (E + 1) (rE sy s (E + 1)) = R) (hu : up (byteAt s i) = true) (h2 : E + 1 < s.size) (h3 : byteAt s E = 46) (hc1 : stt (byteAt s (E + 1)) = false) (hsy : sy (byteAt s (E + 1)) = true) (hne : cls (s.extract (E + 1) (rE sy s (E + 1))) ≠ 6) (hom : om (s.extract (E + 1) (rE sy s (E + 1))).data.toList = false) :
    Calls Tryz.prog 59 #[.string s, .int .i64 i] w fun r w' => TRes s R r ∧ Q W w' ∧ Only (fun _ => False) w w' := by
  have hil : i < s.size := stt_pos hs
  have hi : i ≤ s.size := Nat.le_of_lt hil
  have hiE : i ≤ E := by rw [← hE]; exact (rE_end wd hi).lo
  have hEs : E ≤ s.size := by rw [← hE]; exact (rE_end wd hi).hi
  have hq0 : Q W (uZ w) := hq.only (uA_only w _ _ _ _ _ _ _ _) (fun _ h => h.elim)
  obtain ⟨y, hy⟩ : ∃ y, byteAt s i = y := ⟨_, rfl⟩
  have hSy : (((s[i]'hil).toNat : Nat) : Int) = y := by rw [← byteAt_lt hil]; exact hy
  have HE : Hid (rE wd s i = E) := Lib.hid hE
  have HU : Hid (up y = true) := Lib.hid (by rw [← hy]; exact hu)
  have hEl : E < s.size := by omega
  obtain ⟨x, hx⟩ : ∃ x, byteAt s E = x := ⟨_, rfl⟩
  have hSx : (((s[E]'hEl).toNat : Nat) : Int) = x := by rw [← byteAt_lt hEl]; exact hx
  obtain rfl : x = 46 := by rw [← hx]; exact h3
  obtain ⟨v, hv⟩ : ∃ v, byteAt s (E + 1) = v := ⟨_, rfl⟩
  have hSv : (((s[E + 1]'h2).toNat : Nat) : Int) = v := by rw [← byteAt_lt h2]; exact hv
  have hvb := byteAt_bd s (E + 1)
  rw [hv] at hvb
  obtain ⟨F, hF⟩ : ∃ F, rE sy s (E + 1) = F := ⟨_, rfl⟩
  have hEF : E + 1 ≤ F := by rw [← hF]; exact (rE_end sy (Nat.le_of_lt h2)).lo
  have hFs : F ≤ s.size := by rw [← hF]; exact (rE_end sy (Nat.le_of_lt h2)).hi
  obtain ⟨T, hT⟩ : ∃ T, s.extract (E + 1) F = T := ⟨_, rfl⟩
  have hTz : T.size ≤ 65536 := by rw [← hT, ext_size hEF hFs]; omega
  obtain ⟨c, hc⟩ : ∃ c, cls T = c := ⟨_, rfl⟩
  have HF := Lib.hid hF
  have HC := Lib.hid hc
  have HR : Hid (wQ s i (E + 1) F = R) := Lib.hid (by rw [← hF]; exact hR)
  have ec : (c != 6) = true := by rw [← hc, ← hT, ← hF]; simpa using hne
  have HOM : Hid (om T.data.toList = false) := Lib.hid (by rw [← hT, ← hF]; exact hom)
  have HVS : Hid (sy v = true) := Lib.hid (by rw [← hv]; exact hsy)
  rw [hv] at hc1
  unfold stt at hc1
  have HVL : Hid (lw v = false) := Lib.hid (by cases h : lw v; rfl; rw [h] at hc1; simp at hc1)
  have HVU : Hid (up v = false) := Lib.hid (by cases h : up v; rfl; rw [h] at hc1; simp at hc1)
  clear hE hR hu hy hx h3 hv hc1 hne hom hc hF hsy
  go_enter Tryz.func59, Tryz.ntmps59
  go_wp2_with (go_loud (first | (go_at_call 96; ((with_reducible refine (rl_identRun s i _ (by omega) hi).mono ?_); rw [HE.out]; rintro r w' ⟨rfl, rfl⟩)) | (go_at_call 58; ((with_reducible refine (rl_upper y _).mono ?_); rw [HU.out]; rintro r w' ⟨rfl, rfl⟩)) | (go_at_call 57; ((with_reducible refine (rl_lower v _).mono ?_); rw [HVL.out]; rintro r w' ⟨rfl, rfl⟩)) | (go_at_call 58; ((with_reducible refine (rl_upper v _).mono ?_); rw [HVU.out]; rintro r w' ⟨rfl, rfl⟩)) | (go_at_call 61; ((with_reducible refine (rl_symbolRunj s (E + 1) _ _ (by omega) (by omega) (by omega)).mono ?_); rw [HF.out]; rintro r w' ⟨rfl, rfl⟩)) | (go_at_call 78; ((with_reducible refine (rClassL_v T c W _ (by omega) HC.out hq0).mono ?_); rintro r w5 ⟨rfl, hq5, hO5⟩)) | (go_at_call 60; ((with_reducible refine (rl_symbol v _ hvb.1 hvb.2).mono ?_); rw [HVS.out]; rintro r w' ⟨rfl, rfl⟩)) | (go_at_call 62; ((with_reducible refine (rl_minuses T _ (by omega)).mono ?_); rw [HOM.out]; rintro r w' ⟨rfl, rfl⟩)) | (go_at_call 64; ((with_reducible refine (rword_qR s i (E + 1) F R _ W _ hq5 hz (by omega) (by omega) hEF hFs HR.out).mono ?_); rintro r w1 ⟨⟨op1, q1, t1, n1, e1, code1, a1, nm1, rfl, hT1⟩, hq1, hO1⟩; have hU1 := (UX.new w 0 ⟨#[]⟩ ⟨#[]⟩ 0 0 0 0 ⟨#[]⟩).keep (hO5.trans hO1); obtain ⟨c0, c1, c2, c3, c4, c5, c6, c7, c8, c9, c10⟩ := hU1.cells; have z0 := hU1.fz 0; have z1 := hU1.fz 1; have z2 := hU1.fz 2; have z3 := hU1.fz 3; have z4 := hU1.fz 4; have z5 := hU1.fz 5; have z6 := hU1.fz 6; have z7 := hU1.fz 7; have z8 := hU1.fz 8; have z9 := hU1.fz 9; have z10 := hU1.fz 10))))
  exact bodyPost_ret (v := uV op1 q1 t1 n1 e1 code1 a1 nm1) (by simp [results, Tryz.results59, go_sem, c0, c1, c2, c3, c4, c5, c6, c7, c8, c9, c10]) rfl ⟨hT1.res, (fun hF => ⟨hq.only hF (fun _ h => h.elim), hF⟩) (own_set ((uA_only w _ _ _ _ _ _ _ _).trans (hO5.trans hO1)) (Nat.le_refl _) _ _ _ _ _ _ _ _ _ _ _)⟩
set_option maxRecDepth 100000 in
set_option maxHeartbeats 8000000 in
theorem rname_7 (s : ByteArray) (i E : Nat) (R : RR Tk) (W w : World) (hq : Q W w) (hz : s.size ≤ 65536) (hs : stt (byteAt s i) = true) (hE : rE wd s i = E) (hR : wU s i E = R) (hu : up (byteAt s i) = true) (h2 : E + 1 < s.size) (h3 : byteAt s E = 46) (hc1 : stt (byteAt s (E + 1)) = false) (hsy : sy (byteAt s (E + 1)) = true) (hne : cls (s.extract (E + 1) (rE sy s (E + 1))) = 6) :
    Calls Tryz.prog 59 #[.string s, .int .i64 i] w fun r w' => TRes s R r ∧ Q W w' ∧ Only (fun _ => False) w w' := by
  have hil : i < s.size := stt_pos hs
  have hi : i ≤ s.size := Nat.le_of_lt hil
  have hiE : i ≤ E := by rw [← hE]; exact (rE_end wd hi).lo
  have hEs : E ≤ s.size := by rw [← hE]; exact (rE_end wd hi).hi
  have hq0 : Q W (uZ w) := hq.only (uA_only w _ _ _ _ _ _ _ _) (fun _ h => h.elim)
  obtain ⟨y, hy⟩ : ∃ y, byteAt s i = y := ⟨_, rfl⟩
  have hSy : (((s[i]'hil).toNat : Nat) : Int) = y := by rw [← byteAt_lt hil]; exact hy
  have HE : Hid (rE wd s i = E) := Lib.hid hE
  have HR : Hid (wU s i E = R) := Lib.hid hR
  have HU : Hid (up y = true) := Lib.hid (by rw [← hy]; exact hu)
  have hEl : E < s.size := by omega
  obtain ⟨x, hx⟩ : ∃ x, byteAt s E = x := ⟨_, rfl⟩
  have hSx : (((s[E]'hEl).toNat : Nat) : Int) = x := by rw [← byteAt_lt hEl]; exact hx
  obtain rfl : x = 46 := by rw [← hx]; exact h3
  obtain ⟨v, hv⟩ : ∃ v, byteAt s (E + 1) = v := ⟨_, rfl⟩
  have hSv : (((s[E + 1]'h2).toNat : Nat) : Int) = v := by rw [← byteAt_lt h2]; exact hv
  have hvb := byteAt_bd s (E + 1)
  rw [hv] at hvb
  obtain ⟨F, hF⟩ : ∃ F, rE sy s (E + 1) = F := ⟨_, rfl⟩
  have hEF : E + 1 ≤ F := by rw [← hF]; exact (rE_end sy (Nat.le_of_lt h2)).lo
  have hFs : F ≤ s.size := by rw [← hF]; exact (rE_end sy (Nat.le_of_lt h2)).hi
  obtain ⟨T, hT⟩ : ∃ T, s.extract (E + 1) F = T := ⟨_, rfl⟩
  have hTz : T.size ≤ 65536 := by rw [← hT, ext_size hEF hFs]; omega
  obtain ⟨c, hc⟩ : ∃ c, cls T = c := ⟨_, rfl⟩
  have HF := Lib.hid hF
  have HC := Lib.hid hc
  have ec : (c != 6) = false := by rw [← hc, ← hT, ← hF]; simpa using hne
  have HVS : Hid (sy v = true) := Lib.hid (by rw [← hv]; exact hsy)
  rw [hv] at hc1
  unfold stt at hc1
  have HVL : Hid (lw v = false) := Lib.hid (by cases h : lw v; rfl; rw [h] at hc1; simp at hc1)
  have HVU : Hid (up v = false) := Lib.hid (by cases h : up v; rfl; rw [h] at hc1; simp at hc1)
  clear hE hR hu hy hx h3 hv hc1 hne hc hF hsy
  go_enter Tryz.func59, Tryz.ntmps59
  go_wp2_with (go_loud (first | (go_at_call 96; ((with_reducible refine (rl_identRun s i _ (by omega) hi).mono ?_); rw [HE.out]; rintro r w' ⟨rfl, rfl⟩)) | (go_at_call 58; ((with_reducible refine (rl_upper y _).mono ?_); rw [HU.out]; rintro r w' ⟨rfl, rfl⟩)) | (go_at_call 57; ((with_reducible refine (rl_lower v _).mono ?_); rw [HVL.out]; rintro r w' ⟨rfl, rfl⟩)) | (go_at_call 58; ((with_reducible refine (rl_upper v _).mono ?_); rw [HVU.out]; rintro r w' ⟨rfl, rfl⟩)) | (go_at_call 61; ((with_reducible refine (rl_symbolRunj s (E + 1) _ _ (by omega) (by omega) (by omega)).mono ?_); rw [HF.out]; rintro r w' ⟨rfl, rfl⟩)) | (go_at_call 78; ((with_reducible refine (rClassL_v T c W _ (by omega) HC.out hq0).mono ?_); rintro r w5 ⟨rfl, hq5, hO5⟩)) | (go_at_call 60; ((with_reducible refine (rl_symbol v _ hvb.1 hvb.2).mono ?_); rw [HVS.out]; rintro r w' ⟨rfl, rfl⟩)) | (go_at_call 62; ((with_reducible refine (rl_minuses T _ (by omega)).mono ?_); rw [HOM.out]; rintro r w' ⟨rfl, rfl⟩)) | (go_at_call 64; ((with_reducible refine (rword_uR s i E R W _ hq5 hz hiE hEs HR.out).mono ?_); rintro r w1 ⟨⟨op1, q1, t1, n1, e1, code1, a1, nm1, rfl, hT1⟩, hq1, hO1⟩; have hU1 := (UX.new w 0 ⟨#[]⟩ ⟨#[]⟩ 0 0 0 0 ⟨#[]⟩).keep (hO5.trans hO1); obtain ⟨c0, c1, c2, c3, c4, c5, c6, c7, c8, c9, c10⟩ := hU1.cells; have z0 := hU1.fz 0; have z1 := hU1.fz 1; have z2 := hU1.fz 2; have z3 := hU1.fz 3; have z4 := hU1.fz 4; have z5 := hU1.fz 5; have z6 := hU1.fz 6; have z7 := hU1.fz 7; have z8 := hU1.fz 8; have z9 := hU1.fz 9; have z10 := hU1.fz 10))))
  exact bodyPost_ret (v := uV op1 q1 t1 n1 e1 code1 a1 nm1) (by simp [results, Tryz.results59, go_sem, c0, c1, c2, c3, c4, c5, c6, c7, c8, c9, c10]) rfl ⟨hT1.res, (fun hF => ⟨hq.only hF (fun _ h => h.elim), hF⟩) (own_set ((uA_only w _ _ _ _ _ _ _ _).trans (hO5.trans hO1)) (Nat.le_refl _) _ _ _ _ _ _ _ _ _ _ _)⟩
set_option maxRecDepth 100000 in
set_option maxHeartbeats 8000000 in
theorem rname_8 (s : ByteArray) (i E : Nat) (R : RR Tk) (W w : World) (hq : Q W w) (hz : s.size ≤ 65536) (hs : stt (byteAt s i) = true) (hE : rE wd s i = E) (hR : wU s i E = R) (hu : up (byteAt s i) = true) (h2 : E + 1 < s.size) (h3 : byteAt s E = 46) (hc1 : stt (byteAt s (E + 1)) = false) (hsy : sy (byteAt s (E + 1)) = true) (hne : cls (s.extract (E + 1) (rE sy s (E + 1))) ≠ 6) (hom : om (s.extract (E + 1) (rE sy s (E + 1))).data.toList = true) :
    Calls Tryz.prog 59 #[.string s, .int .i64 i] w fun r w' => TRes s R r ∧ Q W w' ∧ Only (fun _ => False) w w' := by
  have hil : i < s.size := stt_pos hs
  have hi : i ≤ s.size := Nat.le_of_lt hil
  have hiE : i ≤ E := by rw [← hE]; exact (rE_end wd hi).lo
  have hEs : E ≤ s.size := by rw [← hE]; exact (rE_end wd hi).hi
  have hq0 : Q W (uZ w) := hq.only (uA_only w _ _ _ _ _ _ _ _) (fun _ h => h.elim)
  obtain ⟨y, hy⟩ : ∃ y, byteAt s i = y := ⟨_, rfl⟩
  have hSy : (((s[i]'hil).toNat : Nat) : Int) = y := by rw [← byteAt_lt hil]; exact hy
  have HE : Hid (rE wd s i = E) := Lib.hid hE
  have HR : Hid (wU s i E = R) := Lib.hid hR
  have HU : Hid (up y = true) := Lib.hid (by rw [← hy]; exact hu)
  have hEl : E < s.size := by omega
  obtain ⟨x, hx⟩ : ∃ x, byteAt s E = x := ⟨_, rfl⟩
  have hSx : (((s[E]'hEl).toNat : Nat) : Int) = x := by rw [← byteAt_lt hEl]; exact hx
  obtain rfl : x = 46 := by rw [← hx]; exact h3
  obtain ⟨v, hv⟩ : ∃ v, byteAt s (E + 1) = v := ⟨_, rfl⟩
  have hSv : (((s[E + 1]'h2).toNat : Nat) : Int) = v := by rw [← byteAt_lt h2]; exact hv
  have hvb := byteAt_bd s (E + 1)
  rw [hv] at hvb
  obtain ⟨F, hF⟩ : ∃ F, rE sy s (E + 1) = F := ⟨_, rfl⟩
  have hEF : E + 1 ≤ F := by rw [← hF]; exact (rE_end sy (Nat.le_of_lt h2)).lo
  have hFs : F ≤ s.size := by rw [← hF]; exact (rE_end sy (Nat.le_of_lt h2)).hi
  obtain ⟨T, hT⟩ : ∃ T, s.extract (E + 1) F = T := ⟨_, rfl⟩
  have hTz : T.size ≤ 65536 := by rw [← hT, ext_size hEF hFs]; omega
  obtain ⟨c, hc⟩ : ∃ c, cls T = c := ⟨_, rfl⟩
  have HF := Lib.hid hF
  have HC := Lib.hid hc
  have ec : (c != 6) = true := by rw [← hc, ← hT, ← hF]; simpa using hne
  have HOM : Hid (om T.data.toList = true) := Lib.hid (by rw [← hT, ← hF]; exact hom)
  have HVS : Hid (sy v = true) := Lib.hid (by rw [← hv]; exact hsy)
  rw [hv] at hc1
  unfold stt at hc1
  have HVL : Hid (lw v = false) := Lib.hid (by cases h : lw v; rfl; rw [h] at hc1; simp at hc1)
  have HVU : Hid (up v = false) := Lib.hid (by cases h : up v; rfl; rw [h] at hc1; simp at hc1)
  clear hE hR hu hy hx h3 hv hc1 hne hom hc hF hsy
  go_enter Tryz.func59, Tryz.ntmps59
  go_wp2_with (go_loud (first | (go_at_call 96; ((with_reducible refine (rl_identRun s i _ (by omega) hi).mono ?_); rw [HE.out]; rintro r w' ⟨rfl, rfl⟩)) | (go_at_call 58; ((with_reducible refine (rl_upper y _).mono ?_); rw [HU.out]; rintro r w' ⟨rfl, rfl⟩)) | (go_at_call 57; ((with_reducible refine (rl_lower v _).mono ?_); rw [HVL.out]; rintro r w' ⟨rfl, rfl⟩)) | (go_at_call 58; ((with_reducible refine (rl_upper v _).mono ?_); rw [HVU.out]; rintro r w' ⟨rfl, rfl⟩)) | (go_at_call 61; ((with_reducible refine (rl_symbolRunj s (E + 1) _ _ (by omega) (by omega) (by omega)).mono ?_); rw [HF.out]; rintro r w' ⟨rfl, rfl⟩)) | (go_at_call 78; ((with_reducible refine (rClassL_v T c W _ (by omega) HC.out hq0).mono ?_); rintro r w5 ⟨rfl, hq5, hO5⟩)) | (go_at_call 60; ((with_reducible refine (rl_symbol v _ hvb.1 hvb.2).mono ?_); rw [HVS.out]; rintro r w' ⟨rfl, rfl⟩)) | (go_at_call 62; ((with_reducible refine (rl_minuses T _ (by omega)).mono ?_); rw [HOM.out]; rintro r w' ⟨rfl, rfl⟩)) | (go_at_call 64; ((with_reducible refine (rword_uR s i E R W _ hq5 hz hiE hEs HR.out).mono ?_); rintro r w1 ⟨⟨op1, q1, t1, n1, e1, code1, a1, nm1, rfl, hT1⟩, hq1, hO1⟩; have hU1 := (UX.new w 0 ⟨#[]⟩ ⟨#[]⟩ 0 0 0 0 ⟨#[]⟩).keep (hO5.trans hO1); obtain ⟨c0, c1, c2, c3, c4, c5, c6, c7, c8, c9, c10⟩ := hU1.cells; have z0 := hU1.fz 0; have z1 := hU1.fz 1; have z2 := hU1.fz 2; have z3 := hU1.fz 3; have z4 := hU1.fz 4; have z5 := hU1.fz 5; have z6 := hU1.fz 6; have z7 := hU1.fz 7; have z8 := hU1.fz 8; have z9 := hU1.fz 9; have z10 := hU1.fz 10))))
  exact bodyPost_ret (v := uV op1 q1 t1 n1 e1 code1 a1 nm1) (by simp [results, Tryz.results59, go_sem, c0, c1, c2, c3, c4, c5, c6, c7, c8, c9, c10]) rfl ⟨hT1.res, (fun hF => ⟨hq.only hF (fun _ h => h.elim), hF⟩) (own_set ((uA_only w _ _ _ _ _ _ _ _).trans (hO5.trans hO1)) (Nat.le_refl _) _ _ _ _ _ _ _ _ _ _ _)⟩
set_option maxRecDepth 100000 in
set_option maxHeartbeats 4000000 in
theorem rname_9 (s : ByteArray) (i E : Nat) (R : RR Tk) (W w : World) (hq : Q W w) (hz : s.size ≤ 65536) (hs : stt (byteAt s i) = true) (hE : rE wd s i = E) (hR : wU s i E = R) (hu : up (byteAt s i) = true) (h2 : E + 1 < s.size) (h3 : byteAt s E = 46) (hc1 : stt (byteAt s (E + 1)) = false) (hsy : sy (byteAt s (E + 1)) = false) :
    Calls Tryz.prog 59 #[.string s, .int .i64 i] w fun r w' => TRes s R r ∧ Q W w' ∧ Only (fun _ => False) w w' := by
  have hil : i < s.size := stt_pos hs
  have hi : i ≤ s.size := Nat.le_of_lt hil
  have hiE : i ≤ E := by rw [← hE]; exact (rE_end wd hi).lo
  have hEs : E ≤ s.size := by rw [← hE]; exact (rE_end wd hi).hi
  have hq0 : Q W (uZ w) := hq.only (uA_only w _ _ _ _ _ _ _ _) (fun _ h => h.elim)
  obtain ⟨y, hy⟩ : ∃ y, byteAt s i = y := ⟨_, rfl⟩
  have hSy : (((s[i]'hil).toNat : Nat) : Int) = y := by rw [← byteAt_lt hil]; exact hy
  have HE : Hid (rE wd s i = E) := Lib.hid hE
  have HR : Hid (wU s i E = R) := Lib.hid hR
  have HU : Hid (up y = true) := Lib.hid (by rw [← hy]; exact hu)
  have hEl : E < s.size := by omega
  obtain ⟨x, hx⟩ : ∃ x, byteAt s E = x := ⟨_, rfl⟩
  have hSx : (((s[E]'hEl).toNat : Nat) : Int) = x := by rw [← byteAt_lt hEl]; exact hx
  obtain rfl : x = 46 := by rw [← hx]; exact h3
  obtain ⟨v, hv⟩ : ∃ v, byteAt s (E + 1) = v := ⟨_, rfl⟩
  have hSv : (((s[E + 1]'h2).toNat : Nat) : Int) = v := by rw [← byteAt_lt h2]; exact hv
  have hvb := byteAt_bd s (E + 1)
  rw [hv] at hvb
  have HVS : Hid (sy v = false) := Lib.hid (by rw [← hv]; exact hsy)
  rw [hv] at hc1
  unfold stt at hc1
  have HVL : Hid (lw v = false) := Lib.hid (by cases h : lw v; rfl; rw [h] at hc1; simp at hc1)
  have HVU : Hid (up v = false) := Lib.hid (by cases h : up v; rfl; rw [h] at hc1; simp at hc1)
  clear hE hR hu hy hx h3 hv hc1 hsy
  go_enter Tryz.func59, Tryz.ntmps59
  go_wp2_with (go_loud (first | (go_at_call 96; ((with_reducible refine (rl_identRun s i _ (by omega) hi).mono ?_); rw [HE.out]; rintro r w' ⟨rfl, rfl⟩)) | (go_at_call 58; ((with_reducible refine (rl_upper y _).mono ?_); rw [HU.out]; rintro r w' ⟨rfl, rfl⟩)) | (go_at_call 57; ((with_reducible refine (rl_lower v _).mono ?_); rw [HVL.out]; rintro r w' ⟨rfl, rfl⟩)) | (go_at_call 58; ((with_reducible refine (rl_upper v _).mono ?_); rw [HVU.out]; rintro r w' ⟨rfl, rfl⟩)) | (go_at_call 60; ((with_reducible refine (rl_symbol v _ hvb.1 hvb.2).mono ?_); rw [HVS.out]; rintro r w' ⟨rfl, rfl⟩)) | (go_at_call 64; ((with_reducible refine (rword_uR s i E R W _ hq0 hz hiE hEs HR.out).mono ?_); rintro r w1 ⟨⟨op1, q1, t1, n1, e1, code1, a1, nm1, rfl, hT1⟩, hq1, hO1⟩; have hU1 := (UX.new w 0 ⟨#[]⟩ ⟨#[]⟩ 0 0 0 0 ⟨#[]⟩).keep hO1; obtain ⟨c0, c1, c2, c3, c4, c5, c6, c7, c8, c9, c10⟩ := hU1.cells; have z0 := hU1.fz 0; have z1 := hU1.fz 1; have z2 := hU1.fz 2; have z3 := hU1.fz 3; have z4 := hU1.fz 4; have z5 := hU1.fz 5; have z6 := hU1.fz 6; have z7 := hU1.fz 7; have z8 := hU1.fz 8; have z9 := hU1.fz 9; have z10 := hU1.fz 10))))
  exact bodyPost_ret (v := uV op1 q1 t1 n1 e1 code1 a1 nm1) (by simp [results, Tryz.results59, go_sem, c0, c1, c2, c3, c4, c5, c6, c7, c8, c9, c10]) rfl ⟨hT1.res, (fun hF => ⟨hq.only hF (fun _ h => h.elim), hF⟩) (own_set ((uA_only w _ _ _ _ _ _ _ _).trans hO1) (Nat.le_refl _) _ _ _ _ _ _ _ _ _ _ _)⟩
/-- The reference's name. -/
theorem rname_p (s : ByteArray) (i : Nat) (W w : World) (hq : Q W w) (hz : s.size ≤ 65536) (hs : stt (byteAt s i) = true) :
    Calls Tryz.prog 59 #[.string s, .int .i64 i] w fun r w' => TRes s (idR s i) r ∧ Q W w' ∧ Only (fun _ => False) w w' := by
  have hil := stt_pos hs
  have hEs := (rE_end wd (Nat.le_of_lt hil)).hi
  cases hu : up (byteAt s i)
  · exact rname_1 s i _ _ W w hq hz hs rfl (idR_u hs (by rw [hu]; rfl)) hu
  by_cases h2 : rE wd s i + 1 < s.size
  · by_cases h3 : byteAt s (rE wd s i) = 46
    · cases hc1 : stt (byteAt s (rE wd s i + 1))
      · have hn := nE_sy hc1
        cases hsy : sy (byteAt s (rE wd s i + 1))
        · have e : rE sy s (rE wd s i + 1) = rE wd s i + 1 := rE_stop (Nat.le_of_lt h2) (fun _ => hsy)
          exact rname_9 s i _ _ W w hq hz hs rfl (idR_u hs (by rw [hn, e, qok_nil (Nat.le_refl _)]; simp)) hu h2 h3 hc1 hsy
        · have hlt := rE_lt h2 hsy
          have hle := (rE_end sy (Nat.le_of_lt h2)).hi
          have hqk := qok_sym hlt hle hc1
          by_cases hne : cls (s.extract (rE wd s i + 1) (rE sy s (rE wd s i + 1))) = 6
          · exact rname_7 s i _ _ W w hq hz hs rfl (idR_u hs (by rw [hn, hqk, hne]; simp)) hu h2 h3 hc1 hsy hne
          · cases hom : om (s.extract (rE wd s i + 1) (rE sy s (rE wd s i + 1))).data.toList
            · exact rname_6 s i _ _ W w hq hz hs rfl (idR_q hu h2 h3 (by rw [hqk, hom]; simpa using hne) hn) hu h2 h3 hc1 hsy hne hom
            · exact rname_8 s i _ _ W w hq hz hs rfl (idR_u hs (by rw [hn, hqk, hom]; simp)) hu h2 h3 hc1 hsy hne hom
      · have hn := nE_stt hc1
        have hlt := rE_lt h2 (wd_of_stt hc1)
        have hle := (rE_end wd (Nat.le_of_lt h2)).hi
        have hqk := qok_word hlt hle hc1
        by_cases hne : cls (s.extract (rE wd s i + 1) (rE wd s (rE wd s i + 1))) = 5
        · exact rname_5 s i _ _ W w hq hz hs rfl (idR_u hs (by rw [hn, hqk, hne]; simp)) hu h2 h3 hc1 hne
        · exact rname_4 s i _ _ W w hq hz hs rfl (idR_q hu h2 h3 (by rw [hqk]; simpa using hne) hn) hu h2 h3 hc1 hne
    · exact rname_3 s i _ _ W w hq hz hs rfl (idR_u hs (by rw [decide_eq_false h3]; simp)) hu h2 h3
  · refine rname_2 s i _ _ W w hq hz hs rfl (idR_u hs ?_) hu h2
    have hb := nE_bd (s := s) (i := rE wd s i + 1)
    by_cases h4 : rE wd s i < s.size
    · have := (nE_bd (s := s) (i := rE wd s i + 1) (by omega)).2
      rw [qok_nil (by omega)]; simp
    · rw [decide_eq_false h4]; simp
end Go.Proofs.YtelichlplblboaaGreatDoor
