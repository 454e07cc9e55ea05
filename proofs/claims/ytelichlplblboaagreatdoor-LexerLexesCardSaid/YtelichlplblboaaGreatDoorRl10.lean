/-
  WALKS. The reference's lexer: One, fault.
-/
import Derived.Test.YtelichlplblboaaGreatDoorRl6
import Derived.Test.YtelichlplblboaaGreatDoorRl9
import Derived.Test.YtelichlplblboaaGreatDoorTxt
namespace Go.Proofs.YtelichlplblboaaGreatDoor
open Go.RowKit Go.Maps
/-- What One answers. -/
def UPost (s : ByteArray) (u : UU) (e : Ending) : Prop := match u with
  | .tok t j => e = .returned (uV t.op t.qual t.text t.n j 0 0 ⟨#[]⟩)
  | .skip j => e = .returned (uV 0 ⟨#[]⟩ ⟨#[]⟩ 0 j 0 0 ⟨#[]⟩)
  | .bad g => ∃ (code : Int) (a : Nat) (nm : ByteArray), e = .returned (uV 0 ⟨#[]⟩ ⟨#[]⟩ 0 0 code a nm) ∧ g = flt s code nm a ∧ code ≠ 0 ∧ a ≤ s.size
theorem TPost.u {s : ByteArray} {o : RR Tk} {r : Ending} (h : TPost s o r) : UPost s o.u r := by cases o <;> exact h
theorem VPost.v {s : ByteArray} {o : RR Unit} {r : Ending} (h : VPost s o r) : UPost s o.v r := by
  cases o with
  | ok a j => exact h
  | bad g => obtain ⟨code, a, h1, h2, h3, h4⟩ := h; exact ⟨code, a, _, h1, h2, h3, h4⟩
def URes (s : ByteArray) (u : UU) (r : Ending) : Prop := ∃ (op : Int) (q t : ByteArray) (n e code a : Int) (nm : ByteArray), r = .returned (uV op q t n e code a nm) ∧ UPost s u (.returned (uV op q t n e code a nm))
theorem UPost.res {s : ByteArray} {u : UU} {r : Ending} (h : UPost s u r) : URes s u r := by
  cases u with
  | tok t j => exact ⟨_, _, _, _, _, _, _, _, h, rfl⟩
  | skip j => exact ⟨_, _, _, _, _, _, _, _, h, rfl⟩
  | bad g => obtain ⟨code, a, nm, h1, h2, h3, h4⟩ := h; exact ⟨_, _, _, _, _, _, _, _, h1, code, a, nm, rfl, h2, h3, h4⟩
theorem TRes.u {s : ByteArray} {o : RR Tk} {r : Ending} (h : TRes s o r) : URes s o.u r := by
  obtain ⟨_, _, _, _, _, _, _, _, rfl, h⟩ := h
  exact h.u.res
theorem spc_anyR (n : Int) (h0 : 0 ≤ n) (h1 : n ≤ 255) : anyR ⟨#[40, 41, 91, 93, 123, 125, 44, 59, 96]⟩ n = spc n := by
  obtain ⟨m, rfl⟩ := Int.eq_ofNat_of_zero_le h0
  have h : ∀ m : _root_.Fin 256, anyR ⟨#[40, 41, 91, 93, 123, 125, 44, 59, 96]⟩ (m.val : Int) = spc (m.val : Int) := by decide +kernel
  exact h ⟨m, by omega⟩
set_option maxHeartbeats 400000 in
theorem rl_special (n : Int) (w : World) (h0 : 0 ≤ n) (h1 : n ≤ 255) :
    Calls Tryz.prog 69 #[.int .u8 n] w fun e w' => e = .returned (.bool (spc n)) ∧ w = w' := by
  have HV := Lib.hid (spc_anyR n h0 h1)
  go_enter Tryz.func69, Tryz.ntmps69
  go_wp2_with (first | (go_at_call 97; refine (rinL_any _ _ _ (by show 9 ≤ _; omega)).mono ?_; rw [HV.out]; rintro e w' ⟨rfl, rfl⟩))
  go_ret
  exact ⟨rfl, rfl⟩
/-- The classes of a byte, each by itself. -/
theorem byte_classes (y : Int) (h0 : 0 ≤ y) (h1 : y ≤ 255) : (sy y = true → stt y = false ∧ y ≠ 123) ∧ (dg y = true → stt y = false ∧ sy y = false ∧ y ≠ 123) ∧ (spc y = true → stt y = false ∧ sy y = false ∧ dg y = false ∧ y ≠ 39 ∧ y ≠ 34) ∧ (stt y = true → y ≠ 123) := by
  obtain ⟨m, rfl⟩ := Int.eq_ofNat_of_zero_le h0
  have h : ∀ m : _root_.Fin 256, (sy (m.val : Int) = true → stt (m.val : Int) = false ∧ (m.val : Int) ≠ 123) ∧ (dg (m.val : Int) = true → stt (m.val : Int) = false ∧ sy (m.val : Int) = false ∧ (m.val : Int) ≠ 123) ∧ (spc (m.val : Int) = true → stt (m.val : Int) = false ∧ sy (m.val : Int) = false ∧ dg (m.val : Int) = false ∧ (m.val : Int) ≠ 39 ∧ (m.val : Int) ≠ 34) ∧ (stt (m.val : Int) = true → (m.val : Int) ≠ 123) := by decide +kernel
  exact h ⟨m, by omega⟩
set_option maxRecDepth 100000 in
set_option maxHeartbeats 4000000 in
theorem rOne_1 (s : ByteArray) (i : Nat) (W w : World) (hq : Q W w) (hz : s.size ≤ 65536) (hil : i < s.size) (h1 : byteAt s i = 123) (h2 : byteAt s (i + 1) = 45) :
    Calls Tryz.prog 24 #[.string s, .int .i64 i] w fun r w' => URes s ((comR s i).v) r ∧ Q W w' ∧ Only (fun _ => False) w w' := by
  have hi : i ≤ s.size := Nat.le_of_lt hil
  have hz' : s.size ≤ 1000000 := by omega
  have hq0 : Q W (uZ w) := hq.only (uA_only w _ _ _ _ _ _ _ _) (fun _ h => h.elim)
  obtain ⟨y, hy⟩ : ∃ y, byteAt s i = y := ⟨_, rfl⟩
  have hyb := byteAt_bd s i
  rw [hy] at hyb
  have hSy : (((s[i]'hil).toNat : Nat) : Int) = y := by rw [← byteAt_lt hil]; exact hy
  obtain rfl : y = 123 := by rw [← hy]; exact h1
  have hi1 : i + 1 < s.size := byteAt_pos (by omega)
  have hSx : (((s[i + 1]'hi1).toNat : Nat) : Int) = 45 := by rw [← byteAt_lt hi1]; exact h2
  clear hy h1 h2
  go_enter Tryz.func24, Tryz.ntmps24
  go_wp2_with (go_loud (first | (go_at_call 56; ((with_reducible refine (rcomment_p s i _ hz' hi).mono ?_); rintro r w1 hx1; obtain ⟨⟨op1, q1, t1, n1, e1, code1, a1, nm1, rfl, hT1⟩, hO1⟩ := And.intro hx1.1.v.res hx1.2; have hU1 := (UX.new w 0 ⟨#[]⟩ ⟨#[]⟩ 0 0 0 0 ⟨#[]⟩).keep hO1; obtain ⟨c0, c1, c2, c3, c4, c5, c6, c7, c8, c9, c10⟩ := hU1.cells; have z0 := hU1.fz 0; have z1 := hU1.fz 1; have z2 := hU1.fz 2; have z3 := hU1.fz 3; have z4 := hU1.fz 4; have z5 := hU1.fz 5; have z6 := hU1.fz 6; have z7 := hU1.fz 7; have z8 := hU1.fz 8; have z9 := hU1.fz 9; have z10 := hU1.fz 10))))
  exact bodyPost_ret (v := uV op1 q1 t1 n1 e1 code1 a1 nm1) (by simp [results, Tryz.results24, go_sem, c0, c1, c2, c3, c4, c5, c6, c7, c8, c9, c10]) rfl ⟨⟨_, _, _, _, _, _, _, _, rfl, hT1⟩, (fun hF => ⟨hq.only hF (fun _ h => h.elim), hF⟩) (own_set ((uA_only w _ _ _ _ _ _ _ _).trans hO1) (Nat.le_refl _) _ _ _ _ _ _ _ _ _ _ _)⟩
set_option maxRecDepth 100000 in
set_option maxHeartbeats 4000000 in
theorem rOne_2 (s : ByteArray) (i : Nat) (W w : World) (hq : Q W w) (hz : s.size ≤ 65536) (hil : i < s.size) (hs : stt (byteAt s i) = true) :
    Calls Tryz.prog 24 #[.string s, .int .i64 i] w fun r w' => URes s ((idR s i).u) r ∧ Q W w' ∧ Only (fun _ => False) w w' := by
  have hi : i ≤ s.size := Nat.le_of_lt hil
  have hz' : s.size ≤ 1000000 := by omega
  have hq0 : Q W (uZ w) := hq.only (uA_only w _ _ _ _ _ _ _ _) (fun _ h => h.elim)
  obtain ⟨y, hy⟩ : ∃ y, byteAt s i = y := ⟨_, rfl⟩
  have hyb := byteAt_bd s i
  rw [hy] at hyb
  have hSy : (((s[i]'hil).toNat : Nat) : Int) = y := by rw [← byteAt_lt hil]; exact hy
  have h1 : byteAt s i ≠ 123 := by have := stt_bd hs; omega
  have e123 : (y == 123) = false := by rw [← hy]; simpa using h1
  have hlu : lw y = true ∨ (lw y = false ∧ up y = true) := by
    rw [hy] at hs
    unfold stt at hs
    cases h : lw y
    · rw [h] at hs; exact .inr ⟨rfl, by simpa using hs⟩
    · exact .inl rfl
  have HS := Lib.hid hs
  clear hy h1 hs
  rcases hlu with hl | ⟨hl, hu⟩
  · have HVL := Lib.hid hl
    clear hl
    go_enter Tryz.func24, Tryz.ntmps24
    go_wp2_with (go_loud (first | (go_at_call 57; ((with_reducible refine (rl_lower y _).mono ?_); rw [HVL.out]; rintro r w' ⟨rfl, rfl⟩)) | (go_at_call 59; ((with_reducible refine (rname_p s i W _ hq0 hz HS.out).mono ?_); rintro r w1 hx1; obtain ⟨⟨op1, q1, t1, n1, e1, code1, a1, nm1, rfl, hT1⟩, hO1⟩ := And.intro hx1.1.u hx1.2.2; have hU1 := (UX.new w 0 ⟨#[]⟩ ⟨#[]⟩ 0 0 0 0 ⟨#[]⟩).keep hO1; obtain ⟨c0, c1, c2, c3, c4, c5, c6, c7, c8, c9, c10⟩ := hU1.cells; have z0 := hU1.fz 0; have z1 := hU1.fz 1; have z2 := hU1.fz 2; have z3 := hU1.fz 3; have z4 := hU1.fz 4; have z5 := hU1.fz 5; have z6 := hU1.fz 6; have z7 := hU1.fz 7; have z8 := hU1.fz 8; have z9 := hU1.fz 9; have z10 := hU1.fz 10))))
    exact bodyPost_ret (v := uV op1 q1 t1 n1 e1 code1 a1 nm1) (by simp [results, Tryz.results24, go_sem, c0, c1, c2, c3, c4, c5, c6, c7, c8, c9, c10]) rfl ⟨⟨_, _, _, _, _, _, _, _, rfl, hT1⟩, (fun hF => ⟨hq.only hF (fun _ h => h.elim), hF⟩) (own_set ((uA_only w _ _ _ _ _ _ _ _).trans hO1) (Nat.le_refl _) _ _ _ _ _ _ _ _ _ _ _)⟩
  · have HVL := Lib.hid hl
    have HVU := Lib.hid hu
    clear hl hu
    go_enter Tryz.func24, Tryz.ntmps24
    go_wp2_with (go_loud (first | (go_at_call 57; ((with_reducible refine (rl_lower y _).mono ?_); rw [HVL.out]; rintro r w' ⟨rfl, rfl⟩)) | (go_at_call 58; ((with_reducible refine (rl_upper y _).mono ?_); rw [HVU.out]; rintro r w' ⟨rfl, rfl⟩)) | (go_at_call 59; ((with_reducible refine (rname_p s i W _ hq0 hz HS.out).mono ?_); rintro r w1 hx1; obtain ⟨⟨op1, q1, t1, n1, e1, code1, a1, nm1, rfl, hT1⟩, hO1⟩ := And.intro hx1.1.u hx1.2.2; have hU1 := (UX.new w 0 ⟨#[]⟩ ⟨#[]⟩ 0 0 0 0 ⟨#[]⟩).keep hO1; obtain ⟨c0, c1, c2, c3, c4, c5, c6, c7, c8, c9, c10⟩ := hU1.cells; have z0 := hU1.fz 0; have z1 := hU1.fz 1; have z2 := hU1.fz 2; have z3 := hU1.fz 3; have z4 := hU1.fz 4; have z5 := hU1.fz 5; have z6 := hU1.fz 6; have z7 := hU1.fz 7; have z8 := hU1.fz 8; have z9 := hU1.fz 9; have z10 := hU1.fz 10))))
    exact bodyPost_ret (v := uV op1 q1 t1 n1 e1 code1 a1 nm1) (by simp [results, Tryz.results24, go_sem, c0, c1, c2, c3, c4, c5, c6, c7, c8, c9, c10]) rfl ⟨⟨_, _, _, _, _, _, _, _, rfl, hT1⟩, (fun hF => ⟨hq.only hF (fun _ h => h.elim), hF⟩) (own_set ((uA_only w _ _ _ _ _ _ _ _).trans hO1) (Nat.le_refl _) _ _ _ _ _ _ _ _ _ _ _)⟩
set_option maxRecDepth 100000 in
set_option maxHeartbeats 4000000 in
theorem rOne_3 (s : ByteArray) (i : Nat) (W w : World) (hq : Q W w) (hz : s.size ≤ 65536) (hil : i < s.size) (h1 : byteAt s i ≠ 123) (hst : stt (byteAt s i) = false) (hsy : sy (byteAt s i) = true) (hom : om (s.extract i (rE sy s i)).data.toList = true) :
    Calls Tryz.prog 24 #[.string s, .int .i64 i] w fun r w' => URes s ((linR s i).v) r ∧ Q W w' ∧ Only (fun _ => False) w w' := by
  have hi : i ≤ s.size := Nat.le_of_lt hil
  have hz' : s.size ≤ 1000000 := by omega
  have hq0 : Q W (uZ w) := hq.only (uA_only w _ _ _ _ _ _ _ _) (fun _ h => h.elim)
  obtain ⟨y, hy⟩ : ∃ y, byteAt s i = y := ⟨_, rfl⟩
  have hyb := byteAt_bd s i
  rw [hy] at hyb
  have hSy : (((s[i]'hil).toNat : Nat) : Int) = y := by rw [← byteAt_lt hil]; exact hy
  have e123 : (y == 123) = false := by rw [← hy]; simpa using h1
  obtain ⟨E, hE⟩ : ∃ E, rE sy s i = E := ⟨_, rfl⟩
  have hiE : i ≤ E := by rw [← hE]; exact (rE_end sy hi).lo
  have hEs : E ≤ s.size := by rw [← hE]; exact (rE_end sy hi).hi
  obtain ⟨T, hT⟩ : ∃ T, s.extract i E = T := ⟨_, rfl⟩
  have hTz : T.size ≤ 65536 := by rw [← hT, ext_size hiE hEs]; omega
  have HE := Lib.hid hE
  have HOM : Hid (om T.data.toList = true) := Lib.hid (by rw [← hT, ← hE]; exact hom)
  have HVS : Hid (sy y = true) := Lib.hid (by rw [← hy]; exact hsy)
  rw [hy] at hst
  unfold stt at hst
  have HVL : Hid (lw y = false) := Lib.hid (by cases h : lw y; rfl; rw [h] at hst; simp at hst)
  have HVU : Hid (up y = false) := Lib.hid (by cases h : up y; rfl; rw [h] at hst; simp at hst)
  clear hy h1 hst hsy hom hE
  go_enter Tryz.func24, Tryz.ntmps24
  go_wp2_with (go_loud (first | (go_at_call 57; ((with_reducible refine (rl_lower y _).mono ?_); rw [HVL.out]; rintro r w' ⟨rfl, rfl⟩)) | (go_at_call 58; ((with_reducible refine (rl_upper y _).mono ?_); rw [HVU.out]; rintro r w' ⟨rfl, rfl⟩)) | (go_at_call 60; ((with_reducible refine (rl_symbol y _ hyb.1 hyb.2).mono ?_); rw [HVS.out]; rintro r w' ⟨rfl, rfl⟩)) | (go_at_call 61; ((with_reducible refine (rl_symbolRun s i _ hz' hi).mono ?_); rw [HE.out]; rintro r w' ⟨rfl, rfl⟩)) | (go_at_call 62; ((with_reducible refine (rl_minuses T _ (by omega)).mono ?_); rw [HOM.out]; rintro r w' ⟨rfl, rfl⟩)) | (go_at_call 63; ((with_reducible refine (rrest_p s i _ hz' hi).mono ?_); rintro r w1 hx1; obtain ⟨⟨op1, q1, t1, n1, e1, code1, a1, nm1, rfl, hT1⟩, hO1⟩ := And.intro hx1.1.v.res hx1.2; have hU1 := (UX.new w 0 ⟨#[]⟩ ⟨#[]⟩ 0 0 0 0 ⟨#[]⟩).keep hO1; obtain ⟨c0, c1, c2, c3, c4, c5, c6, c7, c8, c9, c10⟩ := hU1.cells; have z0 := hU1.fz 0; have z1 := hU1.fz 1; have z2 := hU1.fz 2; have z3 := hU1.fz 3; have z4 := hU1.fz 4; have z5 := hU1.fz 5; have z6 := hU1.fz 6; have z7 := hU1.fz 7; have z8 := hU1.fz 8; have z9 := hU1.fz 9; have z10 := hU1.fz 10))))
  exact bodyPost_ret (v := uV op1 q1 t1 n1 e1 code1 a1 nm1) (by simp [results, Tryz.results24, go_sem, c0, c1, c2, c3, c4, c5, c6, c7, c8, c9, c10]) rfl ⟨⟨_, _, _, _, _, _, _, _, rfl, hT1⟩, (fun hF => ⟨hq.only hF (fun _ h => h.elim), hF⟩) (own_set ((uA_only w _ _ _ _ _ _ _ _).trans hO1) (Nat.le_refl _) _ _ _ _ _ _ _ _ _ _ _)⟩
set_option maxRecDepth 100000 in
set_option maxHeartbeats 4000000 in
theorem rOne_4 (s : ByteArray) (i : Nat) (W w : World) (hq : Q W w) (hz : s.size ≤ 65536) (hil : i < s.size) (h1 : byteAt s i ≠ 123) (hst : stt (byteAt s i) = false) (hsy : sy (byteAt s i) = true) (hom : om (s.extract i (rE sy s i)).data.toList = false) :
    Calls Tryz.prog 24 #[.string s, .int .i64 i] w fun r w' => URes s ((wU s i (rE sy s i)).u) r ∧ Q W w' ∧ Only (fun _ => False) w w' := by
  have hi : i ≤ s.size := Nat.le_of_lt hil
  have hz' : s.size ≤ 1000000 := by omega
  have hq0 : Q W (uZ w) := hq.only (uA_only w _ _ _ _ _ _ _ _) (fun _ h => h.elim)
  obtain ⟨y, hy⟩ : ∃ y, byteAt s i = y := ⟨_, rfl⟩
  have hyb := byteAt_bd s i
  rw [hy] at hyb
  have hSy : (((s[i]'hil).toNat : Nat) : Int) = y := by rw [← byteAt_lt hil]; exact hy
  have e123 : (y == 123) = false := by rw [← hy]; simpa using h1
  obtain ⟨E, hE⟩ : ∃ E, rE sy s i = E := ⟨_, rfl⟩
  have hiE : i ≤ E := by rw [← hE]; exact (rE_end sy hi).lo
  have hEs : E ≤ s.size := by rw [← hE]; exact (rE_end sy hi).hi
  obtain ⟨T, hT⟩ : ∃ T, s.extract i E = T := ⟨_, rfl⟩
  have hTz : T.size ≤ 65536 := by rw [← hT, ext_size hiE hEs]; omega
  have HE := Lib.hid hE
  have HOM : Hid (om T.data.toList = false) := Lib.hid (by rw [← hT, ← hE]; exact hom)
  have HVS : Hid (sy y = true) := Lib.hid (by rw [← hy]; exact hsy)
  obtain ⟨R, hR⟩ : ∃ R, wU s i (rE sy s i) = R := ⟨_, rfl⟩
  rw [hR]
  have HR : Hid (wU s i E = R) := Lib.hid (by rw [← hE]; exact hR)
  rw [hy] at hst
  unfold stt at hst
  have HVL : Hid (lw y = false) := Lib.hid (by cases h : lw y; rfl; rw [h] at hst; simp at hst)
  have HVU : Hid (up y = false) := Lib.hid (by cases h : up y; rfl; rw [h] at hst; simp at hst)
  clear hy h1 hst hsy hom hE hR
  go_enter Tryz.func24, Tryz.ntmps24
  go_wp2_with (go_loud (first | (go_at_call 57; ((with_reducible refine (rl_lower y _).mono ?_); rw [HVL.out]; rintro r w' ⟨rfl, rfl⟩)) | (go_at_call 58; ((with_reducible refine (rl_upper y _).mono ?_); rw [HVU.out]; rintro r w' ⟨rfl, rfl⟩)) | (go_at_call 60; ((with_reducible refine (rl_symbol y _ hyb.1 hyb.2).mono ?_); rw [HVS.out]; rintro r w' ⟨rfl, rfl⟩)) | (go_at_call 61; ((with_reducible refine (rl_symbolRun s i _ hz' hi).mono ?_); rw [HE.out]; rintro r w' ⟨rfl, rfl⟩)) | (go_at_call 62; ((with_reducible refine (rl_minuses T _ (by omega)).mono ?_); rw [HOM.out]; rintro r w' ⟨rfl, rfl⟩)) | (go_at_call 64; ((with_reducible refine (rword_uR s i E R W _ hq0 hz hiE hEs HR.out).mono ?_); rintro r w1 hx1; obtain ⟨⟨op1, q1, t1, n1, e1, code1, a1, nm1, rfl, hT1⟩, hO1⟩ := And.intro hx1.1.u hx1.2.2; have hU1 := (UX.new w 0 ⟨#[]⟩ ⟨#[]⟩ 0 0 0 0 ⟨#[]⟩).keep hO1; obtain ⟨c0, c1, c2, c3, c4, c5, c6, c7, c8, c9, c10⟩ := hU1.cells; have z0 := hU1.fz 0; have z1 := hU1.fz 1; have z2 := hU1.fz 2; have z3 := hU1.fz 3; have z4 := hU1.fz 4; have z5 := hU1.fz 5; have z6 := hU1.fz 6; have z7 := hU1.fz 7; have z8 := hU1.fz 8; have z9 := hU1.fz 9; have z10 := hU1.fz 10))))
  exact bodyPost_ret (v := uV op1 q1 t1 n1 e1 code1 a1 nm1) (by simp [results, Tryz.results24, go_sem, c0, c1, c2, c3, c4, c5, c6, c7, c8, c9, c10]) rfl ⟨⟨_, _, _, _, _, _, _, _, rfl, hT1⟩, (fun hF => ⟨hq.only hF (fun _ h => h.elim), hF⟩) (own_set ((uA_only w _ _ _ _ _ _ _ _).trans hO1) (Nat.le_refl _) _ _ _ _ _ _ _ _ _ _ _)⟩
set_option maxRecDepth 100000 in
set_option maxHeartbeats 4000000 in
theorem rOne_5 (s : ByteArray) (i : Nat) (W w : World) (hq : Q W w) (hz : s.size ≤ 65536) (hil : i < s.size) (h1 : byteAt s i ≠ 123) (hst : stt (byteAt s i) = false) (hsy : sy (byteAt s i) = false) (hd : dg (byteAt s i) = true) :
    Calls Tryz.prog 24 #[.string s, .int .i64 i] w fun r w' => URes s ((intR s i).u) r ∧ Q W w' ∧ Only (fun _ => False) w w' := by
  have hi : i ≤ s.size := Nat.le_of_lt hil
  have hz' : s.size ≤ 1000000 := by omega
  have hq0 : Q W (uZ w) := hq.only (uA_only w _ _ _ _ _ _ _ _) (fun _ h => h.elim)
  obtain ⟨y, hy⟩ : ∃ y, byteAt s i = y := ⟨_, rfl⟩
  have hyb := byteAt_bd s i
  rw [hy] at hyb
  have hSy : (((s[i]'hil).toNat : Nat) : Int) = y := by rw [← byteAt_lt hil]; exact hy
  have e123 : (y == 123) = false := by rw [← hy]; simpa using h1
  have HVS : Hid (sy y = false) := Lib.hid (by rw [← hy]; exact hsy)
  rw [hy] at hst
  unfold stt at hst
  have HVL : Hid (lw y = false) := Lib.hid (by cases h : lw y; rfl; rw [h] at hst; simp at hst)
  have HVU : Hid (up y = false) := Lib.hid (by cases h : up y; rfl; rw [h] at hst; simp at hst)
  have HVD : Hid (dg y = true) := Lib.hid (by rw [← hy]; exact hd)
  clear hy h1 hst hsy hd
  go_enter Tryz.func24, Tryz.ntmps24
  go_wp2_with (go_loud (first | (go_at_call 57; ((with_reducible refine (rl_lower y _).mono ?_); rw [HVL.out]; rintro r w' ⟨rfl, rfl⟩)) | (go_at_call 58; ((with_reducible refine (rl_upper y _).mono ?_); rw [HVU.out]; rintro r w' ⟨rfl, rfl⟩)) | (go_at_call 60; ((with_reducible refine (rl_symbol y _ hyb.1 hyb.2).mono ?_); rw [HVS.out]; rintro r w' ⟨rfl, rfl⟩)) | (go_at_call 65; ((with_reducible refine (rl_digit y _).mono ?_); rw [HVD.out]; rintro r w' ⟨rfl, rfl⟩)) | (go_at_call 66; ((with_reducible refine (rnumber_p2 s i _ hz' hi).mono ?_); rintro r w1 hx1; obtain ⟨⟨op1, q1, t1, n1, e1, code1, a1, nm1, rfl, hT1⟩, hO1⟩ := And.intro hx1.1.u.res hx1.2; have hU1 := (UX.new w 0 ⟨#[]⟩ ⟨#[]⟩ 0 0 0 0 ⟨#[]⟩).keep hO1; obtain ⟨c0, c1, c2, c3, c4, c5, c6, c7, c8, c9, c10⟩ := hU1.cells; have z0 := hU1.fz 0; have z1 := hU1.fz 1; have z2 := hU1.fz 2; have z3 := hU1.fz 3; have z4 := hU1.fz 4; have z5 := hU1.fz 5; have z6 := hU1.fz 6; have z7 := hU1.fz 7; have z8 := hU1.fz 8; have z9 := hU1.fz 9; have z10 := hU1.fz 10))))
  exact bodyPost_ret (v := uV op1 q1 t1 n1 e1 code1 a1 nm1) (by simp [results, Tryz.results24, go_sem, c0, c1, c2, c3, c4, c5, c6, c7, c8, c9, c10]) rfl ⟨⟨_, _, _, _, _, _, _, _, rfl, hT1⟩, (fun hF => ⟨hq.only hF (fun _ h => h.elim), hF⟩) (own_set ((uA_only w _ _ _ _ _ _ _ _).trans hO1) (Nat.le_refl _) _ _ _ _ _ _ _ _ _ _ _)⟩
set_option maxRecDepth 100000 in
set_option maxHeartbeats 4000000 in
theorem rOne_6 (s : ByteArray) (i : Nat) (W w : World) (hq : Q W w) (hz : s.size ≤ 65536) (hil : i < s.size) (h1 : byteAt s i ≠ 123) (hst : stt (byteAt s i) = false) (hsy : sy (byteAt s i) = false) (hd : dg (byteAt s i) = false) (hb : byteAt s i = 39) :
    Calls Tryz.prog 24 #[.string s, .int .i64 i] w fun r w' => URes s ((chrR s i).u) r ∧ Q W w' ∧ Only (fun _ => False) w w' := by
  have hi : i ≤ s.size := Nat.le_of_lt hil
  have hz' : s.size ≤ 1000000 := by omega
  have hq0 : Q W (uZ w) := hq.only (uA_only w _ _ _ _ _ _ _ _) (fun _ h => h.elim)
  obtain ⟨y, hy⟩ : ∃ y, byteAt s i = y := ⟨_, rfl⟩
  have hyb := byteAt_bd s i
  rw [hy] at hyb
  have hSy : (((s[i]'hil).toNat : Nat) : Int) = y := by rw [← byteAt_lt hil]; exact hy
  have e123 : (y == 123) = false := by rw [← hy]; simpa using h1
  have HVS : Hid (sy y = false) := Lib.hid (by rw [← hy]; exact hsy)
  have HVD : Hid (dg y = false) := Lib.hid (by rw [← hy]; exact hd)
  rw [hy] at hst
  unfold stt at hst
  have HVL : Hid (lw y = false) := Lib.hid (by cases h : lw y; rfl; rw [h] at hst; simp at hst)
  have HVU : Hid (up y = false) := Lib.hid (by cases h : up y; rfl; rw [h] at hst; simp at hst)
  have m1 : (y == 39) = true := by rw [← hy]; simpa using hb
  clear hy h1 hst hsy hd hb
  go_enter Tryz.func24, Tryz.ntmps24
  go_wp2_with (go_loud (first | (go_at_call 57; ((with_reducible refine (rl_lower y _).mono ?_); rw [HVL.out]; rintro r w' ⟨rfl, rfl⟩)) | (go_at_call 58; ((with_reducible refine (rl_upper y _).mono ?_); rw [HVU.out]; rintro r w' ⟨rfl, rfl⟩)) | (go_at_call 60; ((with_reducible refine (rl_symbol y _ hyb.1 hyb.2).mono ?_); rw [HVS.out]; rintro r w' ⟨rfl, rfl⟩)) | (go_at_call 65; ((with_reducible refine (rl_digit y _).mono ?_); rw [HVD.out]; rintro r w' ⟨rfl, rfl⟩)) | (go_at_call 67; ((with_reducible refine (rquoted_p s i _ hz' hi).mono ?_); rintro r w1 hx1; obtain ⟨⟨op1, q1, t1, n1, e1, code1, a1, nm1, rfl, hT1⟩, hO1⟩ := And.intro hx1.1.u.res hx1.2; have hU1 := (UX.new w 0 ⟨#[]⟩ ⟨#[]⟩ 0 0 0 0 ⟨#[]⟩).keep hO1; obtain ⟨c0, c1, c2, c3, c4, c5, c6, c7, c8, c9, c10⟩ := hU1.cells; have z0 := hU1.fz 0; have z1 := hU1.fz 1; have z2 := hU1.fz 2; have z3 := hU1.fz 3; have z4 := hU1.fz 4; have z5 := hU1.fz 5; have z6 := hU1.fz 6; have z7 := hU1.fz 7; have z8 := hU1.fz 8; have z9 := hU1.fz 9; have z10 := hU1.fz 10))))
  exact bodyPost_ret (v := uV op1 q1 t1 n1 e1 code1 a1 nm1) (by simp [results, Tryz.results24, go_sem, c0, c1, c2, c3, c4, c5, c6, c7, c8, c9, c10]) rfl ⟨⟨_, _, _, _, _, _, _, _, rfl, hT1⟩, (fun hF => ⟨hq.only hF (fun _ h => h.elim), hF⟩) (own_set ((uA_only w _ _ _ _ _ _ _ _).trans hO1) (Nat.le_refl _) _ _ _ _ _ _ _ _ _ _ _)⟩
set_option maxRecDepth 100000 in
set_option maxHeartbeats 4000000 in
theorem rOne_7 (s : ByteArray) (i : Nat) (W w : World) (hq : Q W w) (hz : s.size ≤ 65536) (hil : i < s.size) (h1 : byteAt s i ≠ 123) (hst : stt (byteAt s i) = false) (hsy : sy (byteAt s i) = false) (hd : dg (byteAt s i) = false) (hb : byteAt s i = 34) :
    Calls Tryz.prog 24 #[.string s, .int .i64 i] w fun r w' => URes s ((txtR s i).u) r ∧ Q W w' ∧ Only (fun _ => False) w w' := by
  have hi : i ≤ s.size := Nat.le_of_lt hil
  have hz' : s.size ≤ 1000000 := by omega
  have hq0 : Q W (uZ w) := hq.only (uA_only w _ _ _ _ _ _ _ _) (fun _ h => h.elim)
  obtain ⟨y, hy⟩ : ∃ y, byteAt s i = y := ⟨_, rfl⟩
  have hyb := byteAt_bd s i
  rw [hy] at hyb
  have hSy : (((s[i]'hil).toNat : Nat) : Int) = y := by rw [← byteAt_lt hil]; exact hy
  have e123 : (y == 123) = false := by rw [← hy]; simpa using h1
  have HVS : Hid (sy y = false) := Lib.hid (by rw [← hy]; exact hsy)
  have HVD : Hid (dg y = false) := Lib.hid (by rw [← hy]; exact hd)
  rw [hy] at hst
  unfold stt at hst
  have HVL : Hid (lw y = false) := Lib.hid (by cases h : lw y; rfl; rw [h] at hst; simp at hst)
  have HVU : Hid (up y = false) := Lib.hid (by cases h : up y; rfl; rw [h] at hst; simp at hst)
  have m1 : (y == 39) = false := by rw [← hy, hb]; rfl
  have m2 : (y == 34) = true := by rw [← hy]; simpa using hb
  clear hy h1 hst hsy hd hb
  go_enter Tryz.func24, Tryz.ntmps24
  go_wp2_with (go_loud (first | (go_at_call 57; ((with_reducible refine (rl_lower y _).mono ?_); rw [HVL.out]; rintro r w' ⟨rfl, rfl⟩)) | (go_at_call 58; ((with_reducible refine (rl_upper y _).mono ?_); rw [HVU.out]; rintro r w' ⟨rfl, rfl⟩)) | (go_at_call 60; ((with_reducible refine (rl_symbol y _ hyb.1 hyb.2).mono ?_); rw [HVS.out]; rintro r w' ⟨rfl, rfl⟩)) | (go_at_call 65; ((with_reducible refine (rl_digit y _).mono ?_); rw [HVD.out]; rintro r w' ⟨rfl, rfl⟩)) | (go_at_call 68; ((with_reducible refine (rtext_p s i _ hz' hil).mono ?_); rintro r w1 hx1; obtain ⟨⟨op1, q1, t1, n1, e1, code1, a1, nm1, rfl, hT1⟩, hO1⟩ := And.intro hx1.1.u.res hx1.2; have hU1 := (UX.new w 0 ⟨#[]⟩ ⟨#[]⟩ 0 0 0 0 ⟨#[]⟩).keep hO1; obtain ⟨c0, c1, c2, c3, c4, c5, c6, c7, c8, c9, c10⟩ := hU1.cells; have z0 := hU1.fz 0; have z1 := hU1.fz 1; have z2 := hU1.fz 2; have z3 := hU1.fz 3; have z4 := hU1.fz 4; have z5 := hU1.fz 5; have z6 := hU1.fz 6; have z7 := hU1.fz 7; have z8 := hU1.fz 8; have z9 := hU1.fz 9; have z10 := hU1.fz 10))))
  exact bodyPost_ret (v := uV op1 q1 t1 n1 e1 code1 a1 nm1) (by simp [results, Tryz.results24, go_sem, c0, c1, c2, c3, c4, c5, c6, c7, c8, c9, c10]) rfl ⟨⟨_, _, _, _, _, _, _, _, rfl, hT1⟩, (fun hF => ⟨hq.only hF (fun _ h => h.elim), hF⟩) (own_set ((uA_only w _ _ _ _ _ _ _ _).trans hO1) (Nat.le_refl _) _ _ _ _ _ _ _ _ _ _ _)⟩
set_option maxRecDepth 100000 in
set_option maxHeartbeats 4000000 in
theorem rOne_8 (s : ByteArray) (i : Nat) (W w : World) (hq : Q W w) (hz : s.size ≤ 65536) (hil : i < s.size) (hst : stt (byteAt s i) = false) (hsy : sy (byteAt s i) = false) (hd : dg (byteAt s i) = false) (hn1 : byteAt s i ≠ 39) (hn2 : byteAt s i ≠ 34) (hcm : byteAt s i ≠ 123 ∨ (byteAt s i = 123 ∧ i + 1 < s.size ∧ byteAt s (i + 1) ≠ 45) ∨ (byteAt s i = 123 ∧ ¬ i + 1 < s.size)) (hp : spc (byteAt s i) = true) :
    Calls Tryz.prog 24 #[.string s, .int .i64 i] w fun r w' => URes s (.tok ⟨8, nil8, s.extract i (i + 1), 0⟩ (i + 1)) r ∧ Q W w' ∧ Only (fun _ => False) w w' := by
  have hi : i ≤ s.size := Nat.le_of_lt hil
  have hz' : s.size ≤ 1000000 := by omega
  have hq0 : Q W (uZ w) := hq.only (uA_only w _ _ _ _ _ _ _ _) (fun _ h => h.elim)
  obtain ⟨y, hy⟩ : ∃ y, byteAt s i = y := ⟨_, rfl⟩
  have hyb := byteAt_bd s i
  rw [hy] at hyb
  have hSy : (((s[i]'hil).toNat : Nat) : Int) = y := by rw [← byteAt_lt hil]; exact hy
  have HVS : Hid (sy y = false) := Lib.hid (by rw [← hy]; exact hsy)
  have HVD : Hid (dg y = false) := Lib.hid (by rw [← hy]; exact hd)
  rw [hy] at hst
  unfold stt at hst
  have HVL : Hid (lw y = false) := Lib.hid (by cases h : lw y; rfl; rw [h] at hst; simp at hst)
  have HVU : Hid (up y = false) := Lib.hid (by cases h : up y; rfl; rw [h] at hst; simp at hst)
  have HVP : Hid (spc y = true) := Lib.hid (by rw [← hy]; exact hp)
  obtain ⟨X, hX⟩ : ∃ X, s.extract i (i + 1) = X := ⟨_, rfl⟩
  rw [hX]
  have HX : Hid (X = X) := Lib.hid rfl
  have m1 : (y == 39) = false := by rw [← hy]; simpa using hn1
  have m2 : (y == 34) = false := by rw [← hy]; simpa using hn2
  rw [hy] at hcm
  clear hy hst hsy hd hn1 hn2 hp
  rcases hcm with h | ⟨h, hl, hn⟩ | ⟨h, hl⟩
  · have e123 : (y == 123) = false := by simpa using h
    clear h
    go_enter Tryz.func24, Tryz.ntmps24
    go_wp2_with (go_loud (first | (go_at_call 57; ((with_reducible refine (rl_lower y _).mono ?_); rw [HVL.out]; rintro r w' ⟨rfl, rfl⟩)) | (go_at_call 58; ((with_reducible refine (rl_upper y _).mono ?_); rw [HVU.out]; rintro r w' ⟨rfl, rfl⟩)) | (go_at_call 60; ((with_reducible refine (rl_symbol y _ hyb.1 hyb.2).mono ?_); rw [HVS.out]; rintro r w' ⟨rfl, rfl⟩)) | (go_at_call 65; ((with_reducible refine (rl_digit y _).mono ?_); rw [HVD.out]; rintro r w' ⟨rfl, rfl⟩)) | (go_at_call 69; ((with_reducible refine (rl_special y _ hyb.1 hyb.2).mono ?_); rw [HVP.out]; rintro r w' ⟨rfl, rfl⟩))))
    exact bodyPost_ret (v := uV 8 ⟨#[]⟩ X 0 (i + 1 : Nat) 0 0 ⟨#[]⟩) (by simp [results, Tryz.results24, go_sem]) rfl ⟨⟨_, _, _, _, _, _, _, _, rfl, rfl⟩, hq.only (uA_only w _ _ _ _ _ _ _ _) (fun _ h => h.elim), uA_only w _ _ _ _ _ _ _ _⟩
  · have e123 : (y == 123) = true := by simp [h]
    obtain ⟨x, hx⟩ : ∃ x, byteAt s (i + 1) = x := ⟨_, rfl⟩
    have hSx : (((s[i + 1]'hl).toNat : Nat) : Int) = x := by rw [← byteAt_lt hl]; exact hx
    have ex : (x == 45) = false := by rw [← hx]; simpa using hn
    clear h hn hx
    go_enter Tryz.func24, Tryz.ntmps24
    go_wp2_with (go_loud (first | (go_at_call 57; ((with_reducible refine (rl_lower y _).mono ?_); rw [HVL.out]; rintro r w' ⟨rfl, rfl⟩)) | (go_at_call 58; ((with_reducible refine (rl_upper y _).mono ?_); rw [HVU.out]; rintro r w' ⟨rfl, rfl⟩)) | (go_at_call 60; ((with_reducible refine (rl_symbol y _ hyb.1 hyb.2).mono ?_); rw [HVS.out]; rintro r w' ⟨rfl, rfl⟩)) | (go_at_call 65; ((with_reducible refine (rl_digit y _).mono ?_); rw [HVD.out]; rintro r w' ⟨rfl, rfl⟩)) | (go_at_call 69; ((with_reducible refine (rl_special y _ hyb.1 hyb.2).mono ?_); rw [HVP.out]; rintro r w' ⟨rfl, rfl⟩))))
    exact bodyPost_ret (v := uV 8 ⟨#[]⟩ X 0 (i + 1 : Nat) 0 0 ⟨#[]⟩) (by simp [results, Tryz.results24, go_sem]) rfl ⟨⟨_, _, _, _, _, _, _, _, rfl, rfl⟩, hq.only (uA_only w _ _ _ _ _ _ _ _) (fun _ h => h.elim), uA_only w _ _ _ _ _ _ _ _⟩
  · have e123 : (y == 123) = true := by simp [h]
    have hle : s.size ≤ i + 1 := by omega
    clear h hl
    go_enter Tryz.func24, Tryz.ntmps24
    go_wp2_with (go_loud (first | (go_at_call 57; ((with_reducible refine (rl_lower y _).mono ?_); rw [HVL.out]; rintro r w' ⟨rfl, rfl⟩)) | (go_at_call 58; ((with_reducible refine (rl_upper y _).mono ?_); rw [HVU.out]; rintro r w' ⟨rfl, rfl⟩)) | (go_at_call 60; ((with_reducible refine (rl_symbol y _ hyb.1 hyb.2).mono ?_); rw [HVS.out]; rintro r w' ⟨rfl, rfl⟩)) | (go_at_call 65; ((with_reducible refine (rl_digit y _).mono ?_); rw [HVD.out]; rintro r w' ⟨rfl, rfl⟩)) | (go_at_call 69; ((with_reducible refine (rl_special y _ hyb.1 hyb.2).mono ?_); rw [HVP.out]; rintro r w' ⟨rfl, rfl⟩))))
    exact bodyPost_ret (v := uV 8 ⟨#[]⟩ X 0 (i + 1 : Nat) 0 0 ⟨#[]⟩) (by simp [results, Tryz.results24, go_sem]) rfl ⟨⟨_, _, _, _, _, _, _, _, rfl, rfl⟩, hq.only (uA_only w _ _ _ _ _ _ _ _) (fun _ h => h.elim), uA_only w _ _ _ _ _ _ _ _⟩
set_option maxRecDepth 100000 in
set_option maxHeartbeats 4000000 in
theorem rOne_9 (s : ByteArray) (i : Nat) (W w : World) (hq : Q W w) (hz : s.size ≤ 65536) (hil : i < s.size) (hst : stt (byteAt s i) = false) (hsy : sy (byteAt s i) = false) (hd : dg (byteAt s i) = false) (hn1 : byteAt s i ≠ 39) (hn2 : byteAt s i ≠ 34) (hcm : byteAt s i ≠ 123 ∨ (byteAt s i = 123 ∧ i + 1 < s.size ∧ byteAt s (i + 1) ≠ 45) ∨ (byteAt s i = 123 ∧ ¬ i + 1 < s.size)) (hp : spc (byteAt s i) = false) :
    Calls Tryz.prog 24 #[.string s, .int .i64 i] w fun r w' => URes s (.bad (flt s 5 nil8 i)) r ∧ Q W w' ∧ Only (fun _ => False) w w' := by
  have hi : i ≤ s.size := Nat.le_of_lt hil
  have hz' : s.size ≤ 1000000 := by omega
  have hq0 : Q W (uZ w) := hq.only (uA_only w _ _ _ _ _ _ _ _) (fun _ h => h.elim)
  obtain ⟨y, hy⟩ : ∃ y, byteAt s i = y := ⟨_, rfl⟩
  have hyb := byteAt_bd s i
  rw [hy] at hyb
  have hSy : (((s[i]'hil).toNat : Nat) : Int) = y := by rw [← byteAt_lt hil]; exact hy
  have HVS : Hid (sy y = false) := Lib.hid (by rw [← hy]; exact hsy)
  have HVD : Hid (dg y = false) := Lib.hid (by rw [← hy]; exact hd)
  rw [hy] at hst
  unfold stt at hst
  have HVL : Hid (lw y = false) := Lib.hid (by cases h : lw y; rfl; rw [h] at hst; simp at hst)
  have HVU : Hid (up y = false) := Lib.hid (by cases h : up y; rfl; rw [h] at hst; simp at hst)
  have HVP : Hid (spc y = false) := Lib.hid (by rw [← hy]; exact hp)
  have m1 : (y == 39) = false := by rw [← hy]; simpa using hn1
  have m2 : (y == 34) = false := by rw [← hy]; simpa using hn2
  rw [hy] at hcm
  clear hy hst hsy hd hn1 hn2 hp
  rcases hcm with h | ⟨h, hl, hn⟩ | ⟨h, hl⟩
  · have e123 : (y == 123) = false := by simpa using h
    clear h
    go_enter Tryz.func24, Tryz.ntmps24
    go_wp2_with (go_loud (first | (go_at_call 57; ((with_reducible refine (rl_lower y _).mono ?_); rw [HVL.out]; rintro r w' ⟨rfl, rfl⟩)) | (go_at_call 58; ((with_reducible refine (rl_upper y _).mono ?_); rw [HVU.out]; rintro r w' ⟨rfl, rfl⟩)) | (go_at_call 60; ((with_reducible refine (rl_symbol y _ hyb.1 hyb.2).mono ?_); rw [HVS.out]; rintro r w' ⟨rfl, rfl⟩)) | (go_at_call 65; ((with_reducible refine (rl_digit y _).mono ?_); rw [HVD.out]; rintro r w' ⟨rfl, rfl⟩)) | (go_at_call 69; ((with_reducible refine (rl_special y _ hyb.1 hyb.2).mono ?_); rw [HVP.out]; rintro r w' ⟨rfl, rfl⟩)) | (go_at_call 70; ((with_reducible refine (rbad_p _ _ _ _).mono ?_); rintro r w1 ⟨rfl, hO1⟩; have hU1 := (UX.new w 0 ⟨#[]⟩ ⟨#[]⟩ 0 0 0 0 ⟨#[]⟩).keep hO1; obtain ⟨c0, c1, c2, c3, c4, c5, c6, c7, c8, c9, c10⟩ := hU1.cells; have z0 := hU1.fz 0; have z1 := hU1.fz 1; have z2 := hU1.fz 2; have z3 := hU1.fz 3; have z4 := hU1.fz 4; have z5 := hU1.fz 5; have z6 := hU1.fz 6; have z7 := hU1.fz 7; have z8 := hU1.fz 8; have z9 := hU1.fz 9; have z10 := hU1.fz 10))))
    exact bodyPost_ret (v := uV 0 ⟨#[]⟩ ⟨#[]⟩ 0 0 5 i ⟨#[]⟩) (by simp [results, Tryz.results24, go_sem, c0, c1, c2, c3, c4, c5, c6, c7, c8, c9, c10]) rfl ⟨⟨_, _, _, _, _, _, _, _, rfl, 5, i, ⟨#[]⟩, rfl, rfl, by decide, hi⟩, (fun hF => ⟨hq.only hF (fun _ h => h.elim), hF⟩) (own_set ((uA_only w _ _ _ _ _ _ _ _).trans hO1) (Nat.le_refl _) _ _ _ _ _ _ _ _ _ _ _)⟩
  · have e123 : (y == 123) = true := by simp [h]
    obtain ⟨x, hx⟩ : ∃ x, byteAt s (i + 1) = x := ⟨_, rfl⟩
    have hSx : (((s[i + 1]'hl).toNat : Nat) : Int) = x := by rw [← byteAt_lt hl]; exact hx
    have ex : (x == 45) = false := by rw [← hx]; simpa using hn
    clear h hn hx
    go_enter Tryz.func24, Tryz.ntmps24
    go_wp2_with (go_loud (first | (go_at_call 57; ((with_reducible refine (rl_lower y _).mono ?_); rw [HVL.out]; rintro r w' ⟨rfl, rfl⟩)) | (go_at_call 58; ((with_reducible refine (rl_upper y _).mono ?_); rw [HVU.out]; rintro r w' ⟨rfl, rfl⟩)) | (go_at_call 60; ((with_reducible refine (rl_symbol y _ hyb.1 hyb.2).mono ?_); rw [HVS.out]; rintro r w' ⟨rfl, rfl⟩)) | (go_at_call 65; ((with_reducible refine (rl_digit y _).mono ?_); rw [HVD.out]; rintro r w' ⟨rfl, rfl⟩)) | (go_at_call 69; ((with_reducible refine (rl_special y _ hyb.1 hyb.2).mono ?_); rw [HVP.out]; rintro r w' ⟨rfl, rfl⟩)) | (go_at_call 70; ((with_reducible refine (rbad_p _ _ _ _).mono ?_); rintro r w1 ⟨rfl, hO1⟩; have hU1 := (UX.new w 0 ⟨#[]⟩ ⟨#[]⟩ 0 0 0 0 ⟨#[]⟩).keep hO1; obtain ⟨c0, c1, c2, c3, c4, c5, c6, c7, c8, c9, c10⟩ := hU1.cells; have z0 := hU1.fz 0; have z1 := hU1.fz 1; have z2 := hU1.fz 2; have z3 := hU1.fz 3; have z4 := hU1.fz 4; have z5 := hU1.fz 5; have z6 := hU1.fz 6; have z7 := hU1.fz 7; have z8 := hU1.fz 8; have z9 := hU1.fz 9; have z10 := hU1.fz 10))))
    exact bodyPost_ret (v := uV 0 ⟨#[]⟩ ⟨#[]⟩ 0 0 5 i ⟨#[]⟩) (by simp [results, Tryz.results24, go_sem, c0, c1, c2, c3, c4, c5, c6, c7, c8, c9, c10]) rfl ⟨⟨_, _, _, _, _, _, _, _, rfl, 5, i, ⟨#[]⟩, rfl, rfl, by decide, hi⟩, (fun hF => ⟨hq.only hF (fun _ h => h.elim), hF⟩) (own_set ((uA_only w _ _ _ _ _ _ _ _).trans hO1) (Nat.le_refl _) _ _ _ _ _ _ _ _ _ _ _)⟩
  · have e123 : (y == 123) = true := by simp [h]
    have hle : s.size ≤ i + 1 := by omega
    clear h hl
    go_enter Tryz.func24, Tryz.ntmps24
    go_wp2_with (go_loud (first | (go_at_call 57; ((with_reducible refine (rl_lower y _).mono ?_); rw [HVL.out]; rintro r w' ⟨rfl, rfl⟩)) | (go_at_call 58; ((with_reducible refine (rl_upper y _).mono ?_); rw [HVU.out]; rintro r w' ⟨rfl, rfl⟩)) | (go_at_call 60; ((with_reducible refine (rl_symbol y _ hyb.1 hyb.2).mono ?_); rw [HVS.out]; rintro r w' ⟨rfl, rfl⟩)) | (go_at_call 65; ((with_reducible refine (rl_digit y _).mono ?_); rw [HVD.out]; rintro r w' ⟨rfl, rfl⟩)) | (go_at_call 69; ((with_reducible refine (rl_special y _ hyb.1 hyb.2).mono ?_); rw [HVP.out]; rintro r w' ⟨rfl, rfl⟩)) | (go_at_call 70; ((with_reducible refine (rbad_p _ _ _ _).mono ?_); rintro r w1 ⟨rfl, hO1⟩; have hU1 := (UX.new w 0 ⟨#[]⟩ ⟨#[]⟩ 0 0 0 0 ⟨#[]⟩).keep hO1; obtain ⟨c0, c1, c2, c3, c4, c5, c6, c7, c8, c9, c10⟩ := hU1.cells; have z0 := hU1.fz 0; have z1 := hU1.fz 1; have z2 := hU1.fz 2; have z3 := hU1.fz 3; have z4 := hU1.fz 4; have z5 := hU1.fz 5; have z6 := hU1.fz 6; have z7 := hU1.fz 7; have z8 := hU1.fz 8; have z9 := hU1.fz 9; have z10 := hU1.fz 10))))
    exact bodyPost_ret (v := uV 0 ⟨#[]⟩ ⟨#[]⟩ 0 0 5 i ⟨#[]⟩) (by simp [results, Tryz.results24, go_sem, c0, c1, c2, c3, c4, c5, c6, c7, c8, c9, c10]) rfl ⟨⟨_, _, _, _, _, _, _, _, rfl, 5, i, ⟨#[]⟩, rfl, rfl, by decide, hi⟩, (fun hF => ⟨hq.only hF (fun _ h => h.elim), hF⟩) (own_set ((uA_only w _ _ _ _ _ _ _ _).trans hO1) (Nat.le_refl _) _ _ _ _ _ _ _ _ _ _ _)⟩
/-- The reference's One. -/
theorem rOne_p (s : ByteArray) (i : Nat) (W w : World) (hq : Q W w) (hz : s.size ≤ 65536) (hil : i < s.size) :
    Calls Tryz.prog 24 #[.string s, .int .i64 i] w fun r w' => URes s (unit s i) r ∧ Q W w' ∧ Only (fun _ => False) w w' := by
  have hb := byteAt_bd s i
  obtain ⟨k1, k2, k3, k4⟩ := byte_classes (byteAt s i) hb.1 hb.2
  unfold unit
  by_cases h0 : byteAt s i = 123 ∧ byteAt s (i + 1) = 45
  · rw [if_pos h0]; exact rOne_1 s i W w hq hz hil h0.1 h0.2
  rw [if_neg h0]
  cases hsy : sy (byteAt s i)
  · rw [om_no (Nat.le_of_lt hil) hsy]
    simp only [Bool.false_eq_true, if_false]
    cases hst : stt (byteAt s i)
    · simp only [Bool.false_eq_true, if_false]
      cases hd : dg (byteAt s i)
      · simp only [Bool.false_eq_true, if_false]
        have hcm : byteAt s i ≠ 123 ∨ (byteAt s i = 123 ∧ i + 1 < s.size ∧ byteAt s (i + 1) ≠ 45) ∨ (byteAt s i = 123 ∧ ¬ i + 1 < s.size) := by
          by_cases a : byteAt s i = 123
          · by_cases b : i + 1 < s.size
            · exact .inr (.inl ⟨a, b, fun c => h0 ⟨a, c⟩⟩)
            · exact .inr (.inr ⟨a, b⟩)
          · exact .inl a
        by_cases h6 : byteAt s i = 39
        · rw [if_pos h6]; exact rOne_6 s i W w hq hz hil (by omega) hst hsy hd h6
        rw [if_neg h6]
        by_cases h7 : byteAt s i = 34
        · rw [if_pos h7]; exact rOne_7 s i W w hq hz hil (by omega) hst hsy hd h7
        rw [if_neg h7]
        cases hp : spc (byteAt s i)
        · rw [if_neg (by decide)]; exact rOne_9 s i W w hq hz hil hst hsy hd h6 h7 hcm hp
        · rw [if_pos rfl]; exact rOne_8 s i W w hq hz hil hst hsy hd h6 h7 hcm hp
      · simp only [if_true]
        exact rOne_5 s i W w hq hz hil (k2 hd).2.2 hst hsy hd
    · simp only [if_true]
      exact rOne_2 s i W w hq hz hil hst
  · have hst := (k1 hsy).1
    have h1 := (k1 hsy).2
    cases hom : om (s.extract i (rE sy s i)).data.toList
    · simp only [Bool.false_eq_true, if_false]
      rw [hst]
      simp only [Bool.false_eq_true, if_false, if_true]
      have e : nmR s i nil8 i = wU s i (rE sy s i) := by unfold nmR wU; rw [nE_sy hst]
      rw [e]
      exact rOne_4 s i W w hq hz hil h1 hst hsy hom
    · simp only [if_true]
      exact rOne_3 s i W w hq hz hil h1 hst hsy hom
set_option maxRecDepth 100000 in
set_option maxHeartbeats 2000000 in
theorem rfault_p (s : ByteArray) (m : Nat) (j code : Int) (nm : ByteArray) (w : World) (hs : s.size ≤ 65536) (hm : m ≤ s.size) (hj : j = (m : Int)) :
    Calls Tryz.prog 25 #[.string s, .int .i64 j, .int .i64 code, .string nm] w fun e w' => e = .returned (.agg #[.int .i64 code, .string nm, .int .i64 (pos s m).line, .int .i64 (pos s m).col]) ∧ Only (fun _ => False) w w' := by
  subst hj
  go_enter Tryz.func25, Tryz.ntmps25
  go_wp2_with (go_loud (first | (go_at_call 26; ((with_reducible refine (rplace_p s m _ (by omega) hm).mono ?_); rintro r w' ⟨rfl, rfl⟩))))
  exact bodyPost_ret (v := .agg #[.int .i64 code, .string nm, .int .i64 (pos s m).line, .int .i64 (pos s m).col]) (by simp [results, Tryz.results25, go_sem]) rfl ⟨rfl, Only.of_below ((Below.refl _ _).alloc (Nat.le_refl _) _)⟩
end Go.Proofs.YtelichlplblboaaGreatDoor
