/-
  WALKS. The scanner's main method from its first label.
-/
import Derived.Test.YtakojceggpljoaaGreatDoorLScn2
namespace Go.Proofs.YtakojceggpljoaaGreatDoor
open Go.RowKit Go.Maps
section
variable {W w0 w : World} {b g : Nat} {s : ByteArray} {R : LL} {n : Nat} {a : Act}
/-- What stands behind a label. -/
def tailOf : Code → Code
  | .seq _ b => b
  | c => c
theorem Scn.setBegin {B H : At} {tk : Value} {F : Flt} (h : Scn w b s B H tk F) : Scn (((w.setCell ⟨b, 1, none⟩ (.int .i64 H.at')).setCell ⟨b, 2, none⟩ (.int .i64 H.line)).setCell ⟨b, 3, none⟩ (.int .i64 H.col)) b s H H tk F := by
  unfold Scn at h ⊢
  simp [World.setCell, Array.getElem?_modify, h]
theorem Only.set3 (w : World) (b : Nat) (v0 v1 v2 : Value) : Only (· = b) w (((w.setCell ⟨b, 1, none⟩ v0).setCell ⟨b, 2, none⟩ v1).setCell ⟨b, 3, none⟩ v2) :=
  (((Only.refl (· = b) w).setCell (k := 1) rfl _).setCell (k := 2) rfl _).setCell (k := 3) rfl _
theorem idx_v (c v : Int) (w : World) (h : Lib.indexByte spB c.toNat.toUInt8 = v) :
    Calls Tryz.prog 45 #[.string ⟨#[40, 41, 91, 93, 123, 125, 44, 59, 96]⟩, .int .u8 c] w fun e w' => e = .returned (.int .i64 v) ∧ w = w' := by
  refine (Tryz.strings_IndexByte _ _ _).mono ?_
  rintro e w' ⟨rfl, rfl⟩
  exact ⟨ret_int h, rfl⟩
theorem unit_com {s : ByteArray} {i : Nat} (h1 : byteAt s i = 123 ∧ byteAt s (i + 1) = 45) : unit s i = (comR s i).v := by unfold unit; rw [if_pos h1]
theorem unit_lin {s : ByteArray} {i : Nat} (h1 : ¬ (byteAt s i = 123 ∧ byteAt s (i + 1) = 45)) (h2 : om (s.extract i (rE sy s i)).data.toList = true) : unit s i = (linR s i).v := by unfold unit; rw [if_neg h1, if_pos h2]
theorem unit_id {s : ByteArray} {i : Nat} (h1 : ¬ (byteAt s i = 123 ∧ byteAt s (i + 1) = 45)) (h2 : om (s.extract i (rE sy s i)).data.toList = false) (h3 : stt (byteAt s i) = true) : unit s i = (idR s i).u := by unfold unit; rw [if_neg h1, h2, if_neg (by decide), if_pos h3]
theorem unit_sy {s : ByteArray} {i : Nat} (h1 : ¬ (byteAt s i = 123 ∧ byteAt s (i + 1) = 45)) (h2 : om (s.extract i (rE sy s i)).data.toList = false) (h3 : stt (byteAt s i) = false) (h4 : sy (byteAt s i) = true) : unit s i = (nmR s i nil8 i).u := by unfold unit; rw [if_neg h1, h2, if_neg (by decide), h3, if_neg (by decide), if_pos h4]
theorem unit_dg {s : ByteArray} {i : Nat} (h1 : ¬ (byteAt s i = 123 ∧ byteAt s (i + 1) = 45)) (h2 : om (s.extract i (rE sy s i)).data.toList = false) (h3 : stt (byteAt s i) = false) (h4 : sy (byteAt s i) = false) (h5 : dg (byteAt s i) = true) : unit s i = (intR s i).u := by unfold unit; rw [if_neg h1, h2, if_neg (by decide), h3, if_neg (by decide), h4, if_neg (by decide), if_pos h5]
theorem unit_rest {s : ByteArray} {i : Nat} (h1 : ¬ (byteAt s i = 123 ∧ byteAt s (i + 1) = 45)) (h2 : om (s.extract i (rE sy s i)).data.toList = false) (h3 : stt (byteAt s i) = false) (h4 : sy (byteAt s i) = false) (h5 : dg (byteAt s i) = false) :
    unit s i = if byteAt s i = 39 then (chrR s i).u else if byteAt s i = 34 then (txtR s i).u else if spc (byteAt s i) then .tok ⟨8, nil8, s.extract i (i + 1), 0⟩ (i + 1) else .bad (flt s 5 nil8 i) := by unfold unit; rw [if_neg h1, h2, if_neg (by decide), h3, if_neg (by decide), h4, if_neg (by decide), h5, if_neg (by decide)]
set_option maxRecDepth 100000 in
set_option maxHeartbeats 2000000 in
theorem p0_end (hz : s.size ≤ 65536) {k i : Nat} {B0 : At} {tk : Value} {ts : List Tok} {t : Tk} {u : Nat → Value} {ok : Value} (hS : Scn w b s B0 (pos s i) tk F0) (hC : Com W w0 b g s tk ts t w) (hi : i ≤ s.size) (he : i = s.size) (hR : R = .ok ts) : (tailOf (restAt Tryz.f23.body 0)).wp Tryz.prog (jumps (fun l' a' w' => ∃ n', n' < n ∧ JJ W w0 b g s R n' l' a' w') (ScQ W w0 b g s R)) (fr b g ok u) w := by
  have hcells : w.cell? ⟨b, 1, none⟩ = some (.int .i64 B0.at') ∧ w.cell? ⟨b, 2, none⟩ = some (.int .i64 B0.line) ∧ w.cell? ⟨b, 3, none⟩ = some (.int .i64 B0.col) := ⟨hS.bat, hS.bline, hS.bcol⟩
  obtain ⟨c1, c2, c3⟩ := hcells
  have c4 := hS.hat
  have c5 := hS.hline
  have c6 := hS.hcol
  have z1 := hS.fz 1
  have z2 := hS.fz 2
  have z3 := hS.fz 3
  have hS0 := hS.setBegin
  have hC0 := hC.only (Only.set3 w b (.int .i64 (pos s i).at') (.int .i64 (pos s i).line) (.int .i64 (pos s i).col))
  obtain ⟨y, hy⟩ : ∃ y, byteAt s i = y := ⟨_, rfl⟩
  have HY := Lib.hid hy
  have HE := Lib.hid he
  have HR := Lib.hid hR
  clear hy he hR
  unfold fr
  conv => arg 2; whnf
  go_wp2_with (first | (go_at_call 37; ((with_reducible refine (peek0 hS0 HY.out hz hi).mono ?_); rintro r w1 ⟨rfl, hO1⟩; have hS1 := hS0.keep hO1; have hC1 := hC0.only hO1.lift; clear c1 c2 c3 c4 c5 c6 z1 z2 z3)) | (go_at_call 38; refine (ended_yes hS1 HE.out).mono ?_; rintro r w2 ⟨rfl, hO2⟩; have hS2 := hS1.keep hO2; have hC2 := hC1.only hO2.lift))
  exact ⟨rfl, by rw [HR.out]; exact hC2.fin hS2⟩
set_option maxRecDepth 100000 in
set_option maxHeartbeats 2000000 in
theorem p0_blank (hz : s.size ≤ 65536) {k i : Nat} {B0 : At} {tk : Value} {ts : List Tok} {t : Tk} {u : Nat → Value} {ok : Value} (hS : Scn w b s B0 (pos s i) tk F0) (hC : Com W w0 b g s tk ts t w) (hi : i ≤ s.size) (hil : i < s.size) {y : Int} (hy : byteAt s i = y) (hb : y = 32 ∨ y = 9 ∨ y = 10) (HI : Hid (lexF s k (i + 1) ts = R)) (hk : s.size ≤ i + 1 + k) : (tailOf (restAt Tryz.f23.body 0)).wp Tryz.prog (jumps (fun l' a' w' => ∃ n', n' < 4 * (k + 1) + 3 ∧ JJ W w0 b g s R n' l' a' w') (ScQ W w0 b g s R)) (fr b g ok u) w := by
  have hcells : w.cell? ⟨b, 1, none⟩ = some (.int .i64 B0.at') ∧ w.cell? ⟨b, 2, none⟩ = some (.int .i64 B0.line) ∧ w.cell? ⟨b, 3, none⟩ = some (.int .i64 B0.col) := ⟨hS.bat, hS.bline, hS.bcol⟩
  obtain ⟨c1, c2, c3⟩ := hcells
  have c4 := hS.hat
  have c5 := hS.hline
  have c6 := hS.hcol
  have z1 := hS.fz 1
  have z2 := hS.fz 2
  have z3 := hS.fz 3
  have hS0 := hS.setBegin
  have hC0 := hC.only (Only.set3 w b (.int .i64 (pos s i).at') (.int .i64 (pos s i).line) (.int .i64 (pos s i).col))
  have HY := Lib.hid hy
  clear hy
  rcases hb with rfl | rfl | rfl
  all_goals
    unfold fr
    conv => arg 2; whnf
    go_wp2_with (first | (go_at_call 37; ((with_reducible refine (peek0 hS0 HY.out hz hi).mono ?_); rintro r w1 ⟨rfl, hO1⟩; have hS1 := hS0.keep hO1; have hC1 := hC0.only hO1.lift; clear c1 c2 c3 c4 c5 c6 z1 z2 z3)) | (go_at_call 38; refine (ended_no hS1 hil).mono ?_; rintro r w2 ⟨rfl, hO2⟩; have hS2 := hS1.keep hO2; have hC2 := hC1.only hO2.lift) | (go_at_call 39; refine (skip1 hS2 hz hil).mono ?_; rintro r w7 ⟨rfl, hS7, hO7⟩))
    go_step3
    exact ⟨4 * k + 3, by omega, JJ.to0 rfl rfl HI hk hil hS7 (hC2.only hO7)⟩
set_option maxRecDepth 100000 in
set_option maxHeartbeats 2000000 in
theorem p0_com (hz : s.size ≤ 65536) {k i : Nat} {B0 : At} {tk : Value} {ts : List Tok} {t : Tk} {u : Nat → Value} {ok : Value} (hS : Scn w b s B0 (pos s i) tk F0) (hC : Com W w0 b g s tk ts t w) (hi : i ≤ s.size) (hil : i < s.size) (hb : byteAt s i = 123 ∧ byteAt s (i + 1) = 45) (HI : Hid (stepR s k i ts (unit s i) = R)) (hk : s.size ≤ i + (k + 1)) : (tailOf (restAt Tryz.f23.body 0)).wp Tryz.prog (jumps (fun l' a' w' => ∃ n', n' < 4 * (k + 1) + 3 ∧ JJ W w0 b g s R n' l' a' w') (ScQ W w0 b g s R)) (fr b g ok u) w := by
  have hcells : w.cell? ⟨b, 1, none⟩ = some (.int .i64 B0.at') ∧ w.cell? ⟨b, 2, none⟩ = some (.int .i64 B0.line) ∧ w.cell? ⟨b, 3, none⟩ = some (.int .i64 B0.col) := ⟨hS.bat, hS.bline, hS.bcol⟩
  obtain ⟨c1, c2, c3⟩ := hcells
  have c4 := hS.hat
  have c5 := hS.hline
  have c6 := hS.hcol
  have z1 := hS.fz 1
  have z2 := hS.fz 2
  have z3 := hS.fz 3
  have hS0 := hS.setBegin
  have hC0 := hC.only (Only.set3 w b (.int .i64 (pos s i).at') (.int .i64 (pos s i).line) (.int .i64 (pos s i).col))
  have HU := Lib.hid (unit_com hb)
  have HY := Lib.hid hb.1
  have HX := Lib.hid hb.2
  clear hb
  unfold fr
  conv => arg 2; whnf
  go_wp2_with (first | (go_at_call 37; ((with_reducible refine (peek0 hS0 HY.out hz hi).mono ?_); rintro r w1 ⟨rfl, hO1⟩; have hS1 := hS0.keep hO1; have hC1 := hC0.only hO1.lift; clear c1 c2 c3 c4 c5 c6 z1 z2 z3)) | (go_at_call 38; refine (ended_no hS1 hil).mono ?_; rintro r w2 ⟨rfl, hO2⟩; have hS2 := hS1.keep hO2; have hC2 := hC1.only hO2.lift) | (go_at_call 37; ((with_reducible refine (peek1 hS2 HX.out hz hi).mono ?_); rintro r w3 ⟨rfl, hO3⟩; have hS3 := hS2.keep hO3; have hC3 := hC2.only hO3.lift)))
  go_step3
  exact ⟨4 * k + 6, by omega, JJ.toU (by decide) rfl rfl HU.out rfl HI hk hil hS3 hC3⟩
set_option maxRecDepth 100000 in
set_option maxHeartbeats 2000000 in
theorem p0_lin (hz : s.size ≤ 65536) {k i : Nat} {B0 : At} {tk : Value} {ts : List Tok} {t : Tk} {u : Nat → Value} {ok : Value} (hS : Scn w b s B0 (pos s i) tk F0) (hC : Com W w0 b g s tk ts t w) (hi : i ≤ s.size) (hil : i < s.size) {y : Int} (hy : byteAt s i = y) (hnb : ¬ (y = 32 ∨ y = 9 ∨ y = 10)) (h123 : ¬ y = 123) (hom : om (s.extract i (rE sy s i)).data.toList = true)  (HI : Hid (stepR s k i ts (unit s i) = R)) (hk : s.size ≤ i + (k + 1)) : (tailOf (restAt Tryz.f23.body 0)).wp Tryz.prog (jumps (fun l' a' w' => ∃ n', n' < 4 * (k + 1) + 3 ∧ JJ W w0 b g s R n' l' a' w') (ScQ W w0 b g s R)) (fr b g ok u) w := by
  have hcells : w.cell? ⟨b, 1, none⟩ = some (.int .i64 B0.at') ∧ w.cell? ⟨b, 2, none⟩ = some (.int .i64 B0.line) ∧ w.cell? ⟨b, 3, none⟩ = some (.int .i64 B0.col) := ⟨hS.bat, hS.bline, hS.bcol⟩
  obtain ⟨c1, c2, c3⟩ := hcells
  have c4 := hS.hat
  have c5 := hS.hline
  have c6 := hS.hcol
  have z1 := hS.fz 1
  have z2 := hS.fz 2
  have z3 := hS.fz 3
  have hS0 := hS.setBegin
  have hC0 := hC.only (Only.set3 w b (.int .i64 (pos s i).at') (.int .i64 (pos s i).line) (.int .i64 (pos s i).col))
  have nb1 : (y == 32) = false := by simp; omega
  have nb2 : (y == 9) = false := by simp; omega
  have nb3 : (y == 10) = false := by simp; omega
  have n123 : (y == 123) = false := by simp [h123]
  have h1 : ¬ (byteAt s i = 123 ∧ byteAt s (i + 1) = 45) := fun hc => h123 (by rw [← hy]; exact hc.1)
  have hrz : (s.extract i (rE sy s i)).size ≤ 65536 := by simp; omega
  have HB := Lib.hid (om_head hom)
  have HU := Lib.hid (unit_lin h1 hom)
  have HOM := Lib.hid hom
  have HY := Lib.hid hy
  clear h1 h123 hnb hom hy 
  unfold fr
  conv => arg 2; whnf
  go_wp2_with (first | (go_at_call 37; ((with_reducible refine (peek0 hS0 HY.out hz hi).mono ?_); rintro r w1 ⟨rfl, hO1⟩; have hS1 := hS0.keep hO1; have hC1 := hC0.only hO1.lift; clear c1 c2 c3 c4 c5 c6 z1 z2 z3)) | (go_at_call 38; refine (ended_no hS1 hil).mono ?_; rintro r w2 ⟨rfl, hO2⟩; have hS2 := hS1.keep hO2; have hC2 := hC1.only hO2.lift) | (go_at_call 41; refine (run_sp hS2 hz hi).mono ?_; rintro r w4 ⟨rfl, hO4⟩; have hS4 := hS2.keep hO4; have hC4 := hC2.only hO4.lift) | (go_at_call 40; refine (OnlyMinus_v _ true _ _ hrz HOM.out hC4.q).mono ?_; rintro r w5 ⟨rfl, hQ5, hO5⟩; have hS5 := hS4.keep hO5; have hC5 := hC4.only hO5.lift))
  go_step3
  exact ⟨4 * k + 6, by omega, JJ.toU (by decide) rfl rfl ⟨rfl, HB.out⟩ HU.out (Lib.hid (by rw [← HU.out]; exact HI.out)) hk hil hS5 hC5⟩
set_option maxRecDepth 100000 in
set_option maxHeartbeats 2000000 in
theorem p0_id (hz : s.size ≤ 65536) {k i : Nat} {B0 : At} {tk : Value} {ts : List Tok} {t : Tk} {u : Nat → Value} {ok : Value} (hS : Scn w b s B0 (pos s i) tk F0) (hC : Com W w0 b g s tk ts t w) (hi : i ≤ s.size) (hil : i < s.size) {y : Int} (hy : byteAt s i = y) (hnb : ¬ (y = 32 ∨ y = 9 ∨ y = 10)) (h123 : ¬ y = 123) (hom : om (s.extract i (rE sy s i)).data.toList = false) (h3 : stt y = true) (HI : Hid (stepR s k i ts (unit s i) = R)) (hk : s.size ≤ i + (k + 1)) : (tailOf (restAt Tryz.f23.body 0)).wp Tryz.prog (jumps (fun l' a' w' => ∃ n', n' < 4 * (k + 1) + 3 ∧ JJ W w0 b g s R n' l' a' w') (ScQ W w0 b g s R)) (fr b g ok u) w := by
  have hcells : w.cell? ⟨b, 1, none⟩ = some (.int .i64 B0.at') ∧ w.cell? ⟨b, 2, none⟩ = some (.int .i64 B0.line) ∧ w.cell? ⟨b, 3, none⟩ = some (.int .i64 B0.col) := ⟨hS.bat, hS.bline, hS.bcol⟩
  obtain ⟨c1, c2, c3⟩ := hcells
  have c4 := hS.hat
  have c5 := hS.hline
  have c6 := hS.hcol
  have z1 := hS.fz 1
  have z2 := hS.fz 2
  have z3 := hS.fz 3
  have hS0 := hS.setBegin
  have hC0 := hC.only (Only.set3 w b (.int .i64 (pos s i).at') (.int .i64 (pos s i).line) (.int .i64 (pos s i).col))
  have nb1 : (y == 32) = false := by simp; omega
  have nb2 : (y == 9) = false := by simp; omega
  have nb3 : (y == 10) = false := by simp; omega
  have n123 : (y == 123) = false := by simp [h123]
  have h1 : ¬ (byteAt s i = 123 ∧ byteAt s (i + 1) = 45) := fun hc => h123 (by rw [← hy]; exact hc.1)
  have hrz : (s.extract i (rE sy s i)).size ≤ 65536 := by simp; omega
  have H3 := Lib.hid h3
  have HU := Lib.hid (unit_id h1 hom (by rw [hy]; exact h3))
  have HOM := Lib.hid hom
  have HY := Lib.hid hy
  clear h1 h123 hnb hom hy h3
  unfold fr
  conv => arg 2; whnf
  go_wp2_with (first | (go_at_call 37; ((with_reducible refine (peek0 hS0 HY.out hz hi).mono ?_); rintro r w1 ⟨rfl, hO1⟩; have hS1 := hS0.keep hO1; have hC1 := hC0.only hO1.lift; clear c1 c2 c3 c4 c5 c6 z1 z2 z3)) | (go_at_call 38; refine (ended_no hS1 hil).mono ?_; rintro r w2 ⟨rfl, hO2⟩; have hS2 := hS1.keep hO2; have hC2 := hC1.only hO2.lift) | (go_at_call 41; refine (run_sp hS2 hz hi).mono ?_; rintro r w4 ⟨rfl, hO4⟩; have hS4 := hS2.keep hO4; have hC4 := hC2.only hO4.lift) | (go_at_call 40; refine (OnlyMinus_v _ false _ _ hrz HOM.out hC4.q).mono ?_; rintro r w5 ⟨rfl, hQ5, hO5⟩; have hS5 := hS4.keep hO5; have hC5 := hC4.only hO5.lift) | (go_at_call 43; refine (isStart_any _ _).mono ?_; rw [H3.out]; rintro r w6 ⟨rfl, rfl⟩))
  go_step3
  exact ⟨4 * k + 6, by omega, JJ.toU (by decide) rfl rfl ⟨rfl, by rw [HY.out]; exact H3.out⟩ HU.out (Lib.hid (by rw [← HU.out]; exact HI.out)) hk hil hS5 hC5⟩
set_option maxRecDepth 100000 in
set_option maxHeartbeats 2000000 in
theorem p0_sy (hz : s.size ≤ 65536) {k i : Nat} {B0 : At} {tk : Value} {ts : List Tok} {t : Tk} {u : Nat → Value} {ok : Value} (hS : Scn w b s B0 (pos s i) tk F0) (hC : Com W w0 b g s tk ts t w) (hi : i ≤ s.size) (hil : i < s.size) {y : Int} (hy : byteAt s i = y) (hnb : ¬ (y = 32 ∨ y = 9 ∨ y = 10)) (h123 : ¬ y = 123) (hom : om (s.extract i (rE sy s i)).data.toList = false) (h3 : stt y = false) (h4 : sy y = true) (HI : Hid (stepR s k i ts (unit s i) = R)) (hk : s.size ≤ i + (k + 1)) : (tailOf (restAt Tryz.f23.body 0)).wp Tryz.prog (jumps (fun l' a' w' => ∃ n', n' < 4 * (k + 1) + 3 ∧ JJ W w0 b g s R n' l' a' w') (ScQ W w0 b g s R)) (fr b g ok u) w := by
  have hcells : w.cell? ⟨b, 1, none⟩ = some (.int .i64 B0.at') ∧ w.cell? ⟨b, 2, none⟩ = some (.int .i64 B0.line) ∧ w.cell? ⟨b, 3, none⟩ = some (.int .i64 B0.col) := ⟨hS.bat, hS.bline, hS.bcol⟩
  obtain ⟨c1, c2, c3⟩ := hcells
  have c4 := hS.hat
  have c5 := hS.hline
  have c6 := hS.hcol
  have z1 := hS.fz 1
  have z2 := hS.fz 2
  have z3 := hS.fz 3
  have hS0 := hS.setBegin
  have hC0 := hC.only (Only.set3 w b (.int .i64 (pos s i).at') (.int .i64 (pos s i).line) (.int .i64 (pos s i).col))
  have nb1 : (y == 32) = false := by simp; omega
  have nb2 : (y == 9) = false := by simp; omega
  have nb3 : (y == 10) = false := by simp; omega
  have n123 : (y == 123) = false := by simp [h123]
  have h1 : ¬ (byteAt s i = 123 ∧ byteAt s (i + 1) = 45) := fun hc => h123 (by rw [← hy]; exact hc.1)
  have hrz : (s.extract i (rE sy s i)).size ≤ 65536 := by simp; omega
  have H3 := Lib.hid h3
  have H4 := Lib.hid h4
  have HU := Lib.hid (unit_sy h1 hom (by rw [hy]; exact h3) (by rw [hy]; exact h4))
  have HOM := Lib.hid hom
  have HY := Lib.hid hy
  clear h1 h123 hnb hom hy h3 h4
  unfold fr
  conv => arg 2; whnf
  go_wp2_with (first | (go_at_call 37; ((with_reducible refine (peek0 hS0 HY.out hz hi).mono ?_); rintro r w1 ⟨rfl, hO1⟩; have hS1 := hS0.keep hO1; have hC1 := hC0.only hO1.lift; clear c1 c2 c3 c4 c5 c6 z1 z2 z3)) | (go_at_call 38; refine (ended_no hS1 hil).mono ?_; rintro r w2 ⟨rfl, hO2⟩; have hS2 := hS1.keep hO2; have hC2 := hC1.only hO2.lift) | (go_at_call 41; refine (run_sp hS2 hz hi).mono ?_; rintro r w4 ⟨rfl, hO4⟩; have hS4 := hS2.keep hO4; have hC4 := hC2.only hO4.lift) | (go_at_call 40; refine (OnlyMinus_v _ false _ _ hrz HOM.out hC4.q).mono ?_; rintro r w5 ⟨rfl, hQ5, hO5⟩; have hS5 := hS4.keep hO5; have hC5 := hC4.only hO5.lift) | (go_at_call 43; refine (isStart_any _ _).mono ?_; rw [H3.out]; rintro r w6 ⟨rfl, rfl⟩) | (go_at_call 42; refine (isSymbol_any _ _).mono ?_; rw [H4.out]; rintro r w6 ⟨rfl, rfl⟩))
  go_step3
  exact ⟨4 * k + 6, by omega, JJ.toU (by decide) rfl rfl ⟨rfl, by rw [HY.out]; exact H4.out⟩ HU.out (Lib.hid (by rw [← HU.out]; exact HI.out)) hk hil hS5 hC5⟩
set_option maxRecDepth 100000 in
set_option maxHeartbeats 2000000 in
theorem p0_dg (hz : s.size ≤ 65536) {k i : Nat} {B0 : At} {tk : Value} {ts : List Tok} {t : Tk} {u : Nat → Value} {ok : Value} (hS : Scn w b s B0 (pos s i) tk F0) (hC : Com W w0 b g s tk ts t w) (hi : i ≤ s.size) (hil : i < s.size) {y : Int} (hy : byteAt s i = y) (hnb : ¬ (y = 32 ∨ y = 9 ∨ y = 10)) (h123 : ¬ y = 123) (hom : om (s.extract i (rE sy s i)).data.toList = false) (h3 : stt y = false) (h4 : sy y = false) (h5 : dg y = true) (HI : Hid (stepR s k i ts (unit s i) = R)) (hk : s.size ≤ i + (k + 1)) : (tailOf (restAt Tryz.f23.body 0)).wp Tryz.prog (jumps (fun l' a' w' => ∃ n', n' < 4 * (k + 1) + 3 ∧ JJ W w0 b g s R n' l' a' w') (ScQ W w0 b g s R)) (fr b g ok u) w := by
  have hcells : w.cell? ⟨b, 1, none⟩ = some (.int .i64 B0.at') ∧ w.cell? ⟨b, 2, none⟩ = some (.int .i64 B0.line) ∧ w.cell? ⟨b, 3, none⟩ = some (.int .i64 B0.col) := ⟨hS.bat, hS.bline, hS.bcol⟩
  obtain ⟨c1, c2, c3⟩ := hcells
  have c4 := hS.hat
  have c5 := hS.hline
  have c6 := hS.hcol
  have z1 := hS.fz 1
  have z2 := hS.fz 2
  have z3 := hS.fz 3
  have hS0 := hS.setBegin
  have hC0 := hC.only (Only.set3 w b (.int .i64 (pos s i).at') (.int .i64 (pos s i).line) (.int .i64 (pos s i).col))
  have nb1 : (y == 32) = false := by simp; omega
  have nb2 : (y == 9) = false := by simp; omega
  have nb3 : (y == 10) = false := by simp; omega
  have n123 : (y == 123) = false := by simp [h123]
  have h1 : ¬ (byteAt s i = 123 ∧ byteAt s (i + 1) = 45) := fun hc => h123 (by rw [← hy]; exact hc.1)
  have hrz : (s.extract i (rE sy s i)).size ≤ 65536 := by simp; omega
  have H3 := Lib.hid h3
  have H4 := Lib.hid h4
  have H5 := Lib.hid h5
  have HU := Lib.hid (unit_dg h1 hom (by rw [hy]; exact h3) (by rw [hy]; exact h4) (by rw [hy]; exact h5))
  have HOM := Lib.hid hom
  have HY := Lib.hid hy
  clear h1 h123 hnb hom hy h3 h4 h5
  unfold fr
  conv => arg 2; whnf
  go_wp2_with (first | (go_at_call 37; ((with_reducible refine (peek0 hS0 HY.out hz hi).mono ?_); rintro r w1 ⟨rfl, hO1⟩; have hS1 := hS0.keep hO1; have hC1 := hC0.only hO1.lift; clear c1 c2 c3 c4 c5 c6 z1 z2 z3)) | (go_at_call 38; refine (ended_no hS1 hil).mono ?_; rintro r w2 ⟨rfl, hO2⟩; have hS2 := hS1.keep hO2; have hC2 := hC1.only hO2.lift) | (go_at_call 41; refine (run_sp hS2 hz hi).mono ?_; rintro r w4 ⟨rfl, hO4⟩; have hS4 := hS2.keep hO4; have hC4 := hC2.only hO4.lift) | (go_at_call 40; refine (OnlyMinus_v _ false _ _ hrz HOM.out hC4.q).mono ?_; rintro r w5 ⟨rfl, hQ5, hO5⟩; have hS5 := hS4.keep hO5; have hC5 := hC4.only hO5.lift) | (go_at_call 43; refine (isStart_any _ _).mono ?_; rw [H3.out]; rintro r w6 ⟨rfl, rfl⟩) | (go_at_call 42; refine (isSymbol_any _ _).mono ?_; rw [H4.out]; rintro r w6 ⟨rfl, rfl⟩) | (go_at_call 44; refine (isDigit_any _ _).mono ?_; rw [H5.out]; rintro r w6 ⟨rfl, rfl⟩))
  go_step3
  exact ⟨4 * k + 6, by omega, JJ.toU (by decide) rfl rfl ⟨rfl, by rw [HY.out]; exact H5.out⟩ HU.out (Lib.hid (by rw [← HU.out]; exact HI.out)) hk hil hS5 hC5⟩
set_option maxRecDepth 100000 in
set_option maxHeartbeats 2000000 in
theorem p0_chr (hz : s.size ≤ 65536) {k i : Nat} {B0 : At} {tk : Value} {ts : List Tok} {t : Tk} {u : Nat → Value} {ok : Value} (hS : Scn w b s B0 (pos s i) tk F0) (hC : Com W w0 b g s tk ts t w) (hi : i ≤ s.size) (hil : i < s.size) {y : Int} (hy : byteAt s i = y) (hnb : ¬ (y = 32 ∨ y = 9 ∨ y = 10)) (h123 : ¬ y = 123) (hom : om (s.extract i (rE sy s i)).data.toList = false) (h3 : stt y = false) (h4 : sy y = false) (h5 : dg y = false) (h6 : y = 39) (HI : Hid (stepR s k i ts (unit s i) = R)) (hk : s.size ≤ i + (k + 1)) : (tailOf (restAt Tryz.f23.body 0)).wp Tryz.prog (jumps (fun l' a' w' => ∃ n', n' < 4 * (k + 1) + 3 ∧ JJ W w0 b g s R n' l' a' w') (ScQ W w0 b g s R)) (fr b g ok u) w := by
  have hcells : w.cell? ⟨b, 1, none⟩ = some (.int .i64 B0.at') ∧ w.cell? ⟨b, 2, none⟩ = some (.int .i64 B0.line) ∧ w.cell? ⟨b, 3, none⟩ = some (.int .i64 B0.col) := ⟨hS.bat, hS.bline, hS.bcol⟩
  obtain ⟨c1, c2, c3⟩ := hcells
  have c4 := hS.hat
  have c5 := hS.hline
  have c6 := hS.hcol
  have z1 := hS.fz 1
  have z2 := hS.fz 2
  have z3 := hS.fz 3
  have hS0 := hS.setBegin
  have hC0 := hC.only (Only.set3 w b (.int .i64 (pos s i).at') (.int .i64 (pos s i).line) (.int .i64 (pos s i).col))
  have nb1 : (y == 32) = false := by simp; omega
  have nb2 : (y == 9) = false := by simp; omega
  have nb3 : (y == 10) = false := by simp; omega
  have n123 : (y == 123) = false := by simp [h123]
  have h1 : ¬ (byteAt s i = 123 ∧ byteAt s (i + 1) = 45) := fun hc => h123 (by rw [← hy]; exact hc.1)
  have hrz : (s.extract i (rE sy s i)).size ≤ 65536 := by simp; omega
  have H3 := Lib.hid h3
  have H4 := Lib.hid h4
  have H5 := Lib.hid h5
  have e39 : (y == 39) = true := by simp [h6]
  have HU := Lib.hid ((unit_rest h1 hom (by rw [hy]; exact h3) (by rw [hy]; exact h4) (by rw [hy]; exact h5)).trans (if_pos (by rw [hy]; exact h6)))
  have HOM := Lib.hid hom
  have HY := Lib.hid hy
  clear h1 h123 hnb hom hy h3 h4 h5 h6
  unfold fr
  conv => arg 2; whnf
  go_wp2_with (first | (go_at_call 37; ((with_reducible refine (peek0 hS0 HY.out hz hi).mono ?_); rintro r w1 ⟨rfl, hO1⟩; have hS1 := hS0.keep hO1; have hC1 := hC0.only hO1.lift; clear c1 c2 c3 c4 c5 c6 z1 z2 z3)) | (go_at_call 38; refine (ended_no hS1 hil).mono ?_; rintro r w2 ⟨rfl, hO2⟩; have hS2 := hS1.keep hO2; have hC2 := hC1.only hO2.lift) | (go_at_call 41; refine (run_sp hS2 hz hi).mono ?_; rintro r w4 ⟨rfl, hO4⟩; have hS4 := hS2.keep hO4; have hC4 := hC2.only hO4.lift) | (go_at_call 40; refine (OnlyMinus_v _ false _ _ hrz HOM.out hC4.q).mono ?_; rintro r w5 ⟨rfl, hQ5, hO5⟩; have hS5 := hS4.keep hO5; have hC5 := hC4.only hO5.lift) | (go_at_call 43; refine (isStart_any _ _).mono ?_; rw [H3.out]; rintro r w6 ⟨rfl, rfl⟩) | (go_at_call 42; refine (isSymbol_any _ _).mono ?_; rw [H4.out]; rintro r w6 ⟨rfl, rfl⟩) | (go_at_call 44; refine (isDigit_any _ _).mono ?_; rw [H5.out]; rintro r w6 ⟨rfl, rfl⟩))
  go_step3
  exact ⟨4 * k + 6, by omega, JJ.toU (by decide) rfl rfl rfl HU.out (Lib.hid (by rw [← HU.out]; exact HI.out)) hk hil hS5 hC5⟩
set_option maxRecDepth 100000 in
set_option maxHeartbeats 2000000 in
theorem p0_txt (hz : s.size ≤ 65536) {k i : Nat} {B0 : At} {tk : Value} {ts : List Tok} {t : Tk} {u : Nat → Value} {ok : Value} (hS : Scn w b s B0 (pos s i) tk F0) (hC : Com W w0 b g s tk ts t w) (hi : i ≤ s.size) (hil : i < s.size) {y : Int} (hy : byteAt s i = y) (hnb : ¬ (y = 32 ∨ y = 9 ∨ y = 10)) (h123 : ¬ y = 123) (hom : om (s.extract i (rE sy s i)).data.toList = false) (h3 : stt y = false) (h4 : sy y = false) (h5 : dg y = false) (h6 : ¬ y = 39) (h7 : y = 34) (HI : Hid (stepR s k i ts (unit s i) = R)) (hk : s.size ≤ i + (k + 1)) : (tailOf (restAt Tryz.f23.body 0)).wp Tryz.prog (jumps (fun l' a' w' => ∃ n', n' < 4 * (k + 1) + 3 ∧ JJ W w0 b g s R n' l' a' w') (ScQ W w0 b g s R)) (fr b g ok u) w := by
  have hcells : w.cell? ⟨b, 1, none⟩ = some (.int .i64 B0.at') ∧ w.cell? ⟨b, 2, none⟩ = some (.int .i64 B0.line) ∧ w.cell? ⟨b, 3, none⟩ = some (.int .i64 B0.col) := ⟨hS.bat, hS.bline, hS.bcol⟩
  obtain ⟨c1, c2, c3⟩ := hcells
  have c4 := hS.hat
  have c5 := hS.hline
  have c6 := hS.hcol
  have z1 := hS.fz 1
  have z2 := hS.fz 2
  have z3 := hS.fz 3
  have hS0 := hS.setBegin
  have hC0 := hC.only (Only.set3 w b (.int .i64 (pos s i).at') (.int .i64 (pos s i).line) (.int .i64 (pos s i).col))
  have nb1 : (y == 32) = false := by simp; omega
  have nb2 : (y == 9) = false := by simp; omega
  have nb3 : (y == 10) = false := by simp; omega
  have n123 : (y == 123) = false := by simp [h123]
  have h1 : ¬ (byteAt s i = 123 ∧ byteAt s (i + 1) = 45) := fun hc => h123 (by rw [← hy]; exact hc.1)
  have hrz : (s.extract i (rE sy s i)).size ≤ 65536 := by simp; omega
  have H3 := Lib.hid h3
  have H4 := Lib.hid h4
  have H5 := Lib.hid h5
  have e39 : (y == 39) = false := by simp [h6]
  have e34 : (y == 34) = true := by simp [h7]
  have HU := Lib.hid ((unit_rest h1 hom (by rw [hy]; exact h3) (by rw [hy]; exact h4) (by rw [hy]; exact h5)).trans ((if_neg (by rw [hy]; exact h6)).trans (if_pos (by rw [hy]; exact h7))))
  have HOM := Lib.hid hom
  have HY := Lib.hid hy
  clear h1 h123 hnb hom hy h3 h4 h5 h6 h7
  unfold fr
  conv => arg 2; whnf
  go_wp2_with (first | (go_at_call 37; ((with_reducible refine (peek0 hS0 HY.out hz hi).mono ?_); rintro r w1 ⟨rfl, hO1⟩; have hS1 := hS0.keep hO1; have hC1 := hC0.only hO1.lift; clear c1 c2 c3 c4 c5 c6 z1 z2 z3)) | (go_at_call 38; refine (ended_no hS1 hil).mono ?_; rintro r w2 ⟨rfl, hO2⟩; have hS2 := hS1.keep hO2; have hC2 := hC1.only hO2.lift) | (go_at_call 41; refine (run_sp hS2 hz hi).mono ?_; rintro r w4 ⟨rfl, hO4⟩; have hS4 := hS2.keep hO4; have hC4 := hC2.only hO4.lift) | (go_at_call 40; refine (OnlyMinus_v _ false _ _ hrz HOM.out hC4.q).mono ?_; rintro r w5 ⟨rfl, hQ5, hO5⟩; have hS5 := hS4.keep hO5; have hC5 := hC4.only hO5.lift) | (go_at_call 43; refine (isStart_any _ _).mono ?_; rw [H3.out]; rintro r w6 ⟨rfl, rfl⟩) | (go_at_call 42; refine (isSymbol_any _ _).mono ?_; rw [H4.out]; rintro r w6 ⟨rfl, rfl⟩) | (go_at_call 44; refine (isDigit_any _ _).mono ?_; rw [H5.out]; rintro r w6 ⟨rfl, rfl⟩))
  go_step3
  exact ⟨4 * k + 6, by omega, JJ.toU (by decide) rfl rfl rfl HU.out (Lib.hid (by rw [← HU.out]; exact HI.out)) hk hil hS5 hC5⟩
set_option maxRecDepth 100000 in
set_option maxHeartbeats 2000000 in
theorem p0_spc (hz : s.size ≤ 65536) {k i : Nat} {B0 : At} {tk : Value} {ts : List Tok} {t : Tk} {u : Nat → Value} {ok : Value} (hS : Scn w b s B0 (pos s i) tk F0) (hC : Com W w0 b g s tk ts t w) (hi : i ≤ s.size) (hil : i < s.size) {y : Int} (hy : byteAt s i = y) (hnb : ¬ (y = 32 ∨ y = 9 ∨ y = 10)) (h123 : ¬ y = 123) (hom : om (s.extract i (rE sy s i)).data.toList = false) (h3 : stt y = false) (h4 : sy y = false) (h5 : dg y = false) (h6 : ¬ y = 39) (h7 : ¬ y = 34) (h8 : spc y = true) (HI : Hid (stepR s k i ts (unit s i) = R)) (hk : s.size ≤ i + (k + 1)) : (tailOf (restAt Tryz.f23.body 0)).wp Tryz.prog (jumps (fun l' a' w' => ∃ n', n' < 4 * (k + 1) + 3 ∧ JJ W w0 b g s R n' l' a' w') (ScQ W w0 b g s R)) (fr b g ok u) w := by
  have hcells : w.cell? ⟨b, 1, none⟩ = some (.int .i64 B0.at') ∧ w.cell? ⟨b, 2, none⟩ = some (.int .i64 B0.line) ∧ w.cell? ⟨b, 3, none⟩ = some (.int .i64 B0.col) := ⟨hS.bat, hS.bline, hS.bcol⟩
  obtain ⟨c1, c2, c3⟩ := hcells
  have c4 := hS.hat
  have c5 := hS.hline
  have c6 := hS.hcol
  have z1 := hS.fz 1
  have z2 := hS.fz 2
  have z3 := hS.fz 3
  have hS0 := hS.setBegin
  have hC0 := hC.only (Only.set3 w b (.int .i64 (pos s i).at') (.int .i64 (pos s i).line) (.int .i64 (pos s i).col))
  have nb1 : (y == 32) = false := by simp; omega
  have nb2 : (y == 9) = false := by simp; omega
  have nb3 : (y == 10) = false := by simp; omega
  have n123 : (y == 123) = false := by simp [h123]
  have h1 : ¬ (byteAt s i = 123 ∧ byteAt s (i + 1) = 45) := fun hc => h123 (by rw [← hy]; exact hc.1)
  have hrz : (s.extract i (rE sy s i)).size ≤ 65536 := by simp; omega
  have H3 := Lib.hid h3
  have H4 := Lib.hid h4
  have H5 := Lib.hid h5
  have e39 : (y == 39) = false := by simp [h6]
  have e34 : (y == 34) = false := by simp [h7]
  obtain ⟨v, hv⟩ : ∃ v, Lib.indexByte spB y.toNat.toUInt8 = v := ⟨_, rfl⟩
  have hv0 : 0 ≤ v := by have h := h8; unfold spc at h; rw [hv] at h; simp at h; omega
  have HV := Lib.hid hv
  have HU := Lib.hid ((unit_rest h1 hom (by rw [hy]; exact h3) (by rw [hy]; exact h4) (by rw [hy]; exact h5)).trans ((if_neg (by rw [hy]; exact h6)).trans ((if_neg (by rw [hy]; exact h7)).trans (if_pos (by rw [hy]; exact h8)))))
  have HOM := Lib.hid hom
  have HY := Lib.hid hy
  clear h1 h123 hnb hom hy h3 h4 h5 h6 h7 h8 hv
  unfold fr
  conv => arg 2; whnf
  go_wp2_with (first | (go_at_call 37; ((with_reducible refine (peek0 hS0 HY.out hz hi).mono ?_); rintro r w1 ⟨rfl, hO1⟩; have hS1 := hS0.keep hO1; have hC1 := hC0.only hO1.lift; clear c1 c2 c3 c4 c5 c6 z1 z2 z3)) | (go_at_call 38; refine (ended_no hS1 hil).mono ?_; rintro r w2 ⟨rfl, hO2⟩; have hS2 := hS1.keep hO2; have hC2 := hC1.only hO2.lift) | (go_at_call 41; refine (run_sp hS2 hz hi).mono ?_; rintro r w4 ⟨rfl, hO4⟩; have hS4 := hS2.keep hO4; have hC4 := hC2.only hO4.lift) | (go_at_call 40; refine (OnlyMinus_v _ false _ _ hrz HOM.out hC4.q).mono ?_; rintro r w5 ⟨rfl, hQ5, hO5⟩; have hS5 := hS4.keep hO5; have hC5 := hC4.only hO5.lift) | (go_at_call 43; refine (isStart_any _ _).mono ?_; rw [H3.out]; rintro r w6 ⟨rfl, rfl⟩) | (go_at_call 42; refine (isSymbol_any _ _).mono ?_; rw [H4.out]; rintro r w6 ⟨rfl, rfl⟩) | (go_at_call 44; refine (isDigit_any _ _).mono ?_; rw [H5.out]; rintro r w6 ⟨rfl, rfl⟩) | (go_at_call 45; refine (idx_v _ v _ HV.out).mono ?_; rintro r w6 ⟨rfl, rfl⟩))
  go_step3
  exact ⟨4 * k + 6, by omega, JJ.toU (by decide) rfl rfl rfl HU.out (Lib.hid (by rw [← HU.out]; exact HI.out)) hk hil hS5 hC5⟩
set_option maxRecDepth 100000 in
set_option maxHeartbeats 2000000 in
theorem p0_bad (hz : s.size ≤ 65536) {k i : Nat} {B0 : At} {tk : Value} {ts : List Tok} {t : Tk} {u : Nat → Value} {ok : Value} (hS : Scn w b s B0 (pos s i) tk F0) (hC : Com W w0 b g s tk ts t w) (hi : i ≤ s.size) (hil : i < s.size) {y : Int} (hy : byteAt s i = y) (hnb : ¬ (y = 32 ∨ y = 9 ∨ y = 10)) (h123 : ¬ y = 123) (hom : om (s.extract i (rE sy s i)).data.toList = false) (h3 : stt y = false) (h4 : sy y = false) (h5 : dg y = false) (h6 : ¬ y = 39) (h7 : ¬ y = 34) (h8 : spc y = false) (HI : Hid (stepR s k i ts (unit s i) = R)) (hk : s.size ≤ i + (k + 1)) : (tailOf (restAt Tryz.f23.body 0)).wp Tryz.prog (jumps (fun l' a' w' => ∃ n', n' < 4 * (k + 1) + 3 ∧ JJ W w0 b g s R n' l' a' w') (ScQ W w0 b g s R)) (fr b g ok u) w := by
  have hcells : w.cell? ⟨b, 1, none⟩ = some (.int .i64 B0.at') ∧ w.cell? ⟨b, 2, none⟩ = some (.int .i64 B0.line) ∧ w.cell? ⟨b, 3, none⟩ = some (.int .i64 B0.col) := ⟨hS.bat, hS.bline, hS.bcol⟩
  obtain ⟨c1, c2, c3⟩ := hcells
  have c4 := hS.hat
  have c5 := hS.hline
  have c6 := hS.hcol
  have z1 := hS.fz 1
  have z2 := hS.fz 2
  have z3 := hS.fz 3
  have hS0 := hS.setBegin
  have hC0 := hC.only (Only.set3 w b (.int .i64 (pos s i).at') (.int .i64 (pos s i).line) (.int .i64 (pos s i).col))
  have nb1 : (y == 32) = false := by simp; omega
  have nb2 : (y == 9) = false := by simp; omega
  have nb3 : (y == 10) = false := by simp; omega
  have n123 : (y == 123) = false := by simp [h123]
  have h1 : ¬ (byteAt s i = 123 ∧ byteAt s (i + 1) = 45) := fun hc => h123 (by rw [← hy]; exact hc.1)
  have hrz : (s.extract i (rE sy s i)).size ≤ 65536 := by simp; omega
  have H3 := Lib.hid h3
  have H4 := Lib.hid h4
  have H5 := Lib.hid h5
  have e39 : (y == 39) = false := by simp [h6]
  have e34 : (y == 34) = false := by simp [h7]
  obtain ⟨v, hv⟩ : ∃ v, Lib.indexByte spB y.toNat.toUInt8 = v := ⟨_, rfl⟩
  have hv0 : v < 0 := by have h := h8; unfold spc at h; rw [hv] at h; simp at h; omega
  have HV := Lib.hid hv
  have HU := Lib.hid ((unit_rest h1 hom (by rw [hy]; exact h3) (by rw [hy]; exact h4) (by rw [hy]; exact h5)).trans ((if_neg (by rw [hy]; exact h6)).trans ((if_neg (by rw [hy]; exact h7)).trans (if_neg (by rw [hy, h8]; decide)))))
  have HOM := Lib.hid hom
  have HY := Lib.hid hy
  clear h1 h123 hnb hom hy h3 h4 h5 h6 h7 h8 hv
  unfold fr
  conv => arg 2; whnf
  go_wp2_with (first | (go_at_call 37; ((with_reducible refine (peek0 hS0 HY.out hz hi).mono ?_); rintro r w1 ⟨rfl, hO1⟩; have hS1 := hS0.keep hO1; have hC1 := hC0.only hO1.lift; clear c1 c2 c3 c4 c5 c6 z1 z2 z3)) | (go_at_call 38; refine (ended_no hS1 hil).mono ?_; rintro r w2 ⟨rfl, hO2⟩; have hS2 := hS1.keep hO2; have hC2 := hC1.only hO2.lift) | (go_at_call 41; refine (run_sp hS2 hz hi).mono ?_; rintro r w4 ⟨rfl, hO4⟩; have hS4 := hS2.keep hO4; have hC4 := hC2.only hO4.lift) | (go_at_call 40; refine (OnlyMinus_v _ false _ _ hrz HOM.out hC4.q).mono ?_; rintro r w5 ⟨rfl, hQ5, hO5⟩; have hS5 := hS4.keep hO5; have hC5 := hC4.only hO5.lift) | (go_at_call 43; refine (isStart_any _ _).mono ?_; rw [H3.out]; rintro r w6 ⟨rfl, rfl⟩) | (go_at_call 42; refine (isSymbol_any _ _).mono ?_; rw [H4.out]; rintro r w6 ⟨rfl, rfl⟩) | (go_at_call 44; refine (isDigit_any _ _).mono ?_; rw [H5.out]; rintro r w6 ⟨rfl, rfl⟩) | (go_at_call 45; refine (idx_v _ v _ HV.out).mono ?_; rintro r w6 ⟨rfl, rfl⟩) | (go_at_call 46; refine (failHere_p hS5).mono ?_; rintro r w7 ⟨rfl, hB7, hO7⟩))
  exact ⟨rfl, by have h := HI.out; rw [HU.out] at h; rw [← h]; exact (hC5.only hO7).bad hB7⟩
set_option maxRecDepth 100000 in
set_option maxHeartbeats 2000000 in
theorem p0_brace (hz : s.size ≤ 65536) {k i : Nat} {B0 : At} {tk : Value} {ts : List Tok} {t : Tk} {u : Nat → Value} {ok : Value} (hS : Scn w b s B0 (pos s i) tk F0) (hC : Com W w0 b g s tk ts t w) (hi : i ≤ s.size) (hil : i < s.size) (hy : byteAt s i = 123) {x : Int} (hx : byteAt s (i + 1) = x) (hx45 : ¬ x = 45) (hom : om (s.extract i (rE sy s i)).data.toList = false) (HI : Hid (stepR s k i ts (unit s i) = R)) (hk : s.size ≤ i + (k + 1)) : (tailOf (restAt Tryz.f23.body 0)).wp Tryz.prog (jumps (fun l' a' w' => ∃ n', n' < 4 * (k + 1) + 3 ∧ JJ W w0 b g s R n' l' a' w') (ScQ W w0 b g s R)) (fr b g ok u) w := by
  have hcells : w.cell? ⟨b, 1, none⟩ = some (.int .i64 B0.at') ∧ w.cell? ⟨b, 2, none⟩ = some (.int .i64 B0.line) ∧ w.cell? ⟨b, 3, none⟩ = some (.int .i64 B0.col) := ⟨hS.bat, hS.bline, hS.bcol⟩
  obtain ⟨c1, c2, c3⟩ := hcells
  have c4 := hS.hat
  have c5 := hS.hline
  have c6 := hS.hcol
  have z1 := hS.fz 1
  have z2 := hS.fz 2
  have z3 := hS.fz 3
  have hS0 := hS.setBegin
  have hC0 := hC.only (Only.set3 w b (.int .i64 (pos s i).at') (.int .i64 (pos s i).line) (.int .i64 (pos s i).col))
  have hrz : (s.extract i (rE sy s i)).size ≤ 65536 := by simp; omega
  have e45 : (x == 45) = false := by simp [hx45]
  have h1 : ¬ (byteAt s i = 123 ∧ byteAt s (i + 1) = 45) := fun hc => hx45 (by rw [← hx]; exact hc.2)
  have h3 : stt 123 = false := by decide
  have h4 : sy 123 = false := by decide
  have h5 : dg 123 = false := by decide
  obtain ⟨v, hv⟩ : ∃ v, Lib.indexByte spB (123 : Int).toNat.toUInt8 = v := ⟨_, rfl⟩
  have hv0 : 0 ≤ v := by rw [← hv]; decide
  have HV := Lib.hid hv
  have HU : Hid (unit s i = .tok ⟨8, nil8, s.extract i (i + 1), 0⟩ (i + 1)) := Lib.hid ((unit_rest h1 hom (by rw [hy]; exact h3) (by rw [hy]; exact h4) (by rw [hy]; exact h5)).trans (by rw [hy]; simp [show spc 123 = true by decide]))
  have H3 := Lib.hid h3
  have H4 := Lib.hid h4
  have H5 := Lib.hid h5
  have HOM := Lib.hid hom
  have HY := Lib.hid hy
  have HX := Lib.hid hx
  clear h1 hom hy hx hx45 h3 h4 h5 hv
  unfold fr
  conv => arg 2; whnf
  go_wp2_with (first | (go_at_call 37; ((with_reducible refine (peek0 hS0 HY.out hz hi).mono ?_); rintro r w1 ⟨rfl, hO1⟩; have hS1 := hS0.keep hO1; have hC1 := hC0.only hO1.lift; clear c1 c2 c3 c4 c5 c6 z1 z2 z3)) | (go_at_call 38; refine (ended_no hS1 hil).mono ?_; rintro r w2 ⟨rfl, hO2⟩; have hS2 := hS1.keep hO2; have hC2 := hC1.only hO2.lift) | (go_at_call 37; ((with_reducible refine (peek1 hS2 HX.out hz hi).mono ?_); rintro r w3 ⟨rfl, hO3⟩; have hS3 := hS2.keep hO3; have hC3 := hC2.only hO3.lift)) | (go_at_call 41; refine (run_sp hS3 hz hi).mono ?_; rintro r w4 ⟨rfl, hO4⟩; have hS4 := hS3.keep hO4; have hC4 := hC3.only hO4.lift) | (go_at_call 40; refine (OnlyMinus_v _ false _ _ hrz HOM.out hC4.q).mono ?_; rintro r w5 ⟨rfl, hQ5, hO5⟩; have hS5 := hS4.keep hO5; have hC5 := hC4.only hO5.lift) | (go_at_call 43; refine (isStart_any _ _).mono ?_; rw [H3.out]; rintro r w6 ⟨rfl, rfl⟩) | (go_at_call 42; refine (isSymbol_any _ _).mono ?_; rw [H4.out]; rintro r w6 ⟨rfl, rfl⟩) | (go_at_call 44; refine (isDigit_any _ _).mono ?_; rw [H5.out]; rintro r w6 ⟨rfl, rfl⟩) | (go_at_call 45; refine (idx_v _ v _ HV.out).mono ?_; rintro r w6 ⟨rfl, rfl⟩))
  go_step3
  exact ⟨4 * k + 6, by omega, JJ.toU (by decide) rfl rfl rfl HU.out (Lib.hid (by rw [← HU.out]; exact HI.out)) hk hil hS5 hC5⟩
theorem spc_123 : spc 123 = true := by decide
theorem stt_ne {y : Int} (h : stt y = true) : ¬ y = 123 := fun e => by rw [e] at h; exact absurd h (by decide)
theorem sy_ne {y : Int} (h : sy y = true) : ¬ y = 123 := fun e => by rw [e] at h; exact absurd h (by decide)
theorem dg_ne {y : Int} (h : dg y = true) : ¬ y = 123 := fun e => by rw [e] at h; exact absurd h (by decide)
theorem pass0t (hz : s.size ≤ 65536) (hJ : JJ W w0 b g s R n 0 a w) : (tailOf (restAt Tryz.f23.body 0)).wp Tryz.prog (jumps (fun l' a' w' => ∃ n', n' < n ∧ JJ W w0 b g s R n' l' a' w') (ScQ W w0 b g s R)) a w := by
  obtain ⟨u, ok, k, i, B0, tk, ts, t, rfl, rfl, HI, h1, h2, hS, hC⟩ := hJ
  by_cases he : i = s.size
  · exact p0_end (k := k) hz hS hC h2 he (by rw [← HI.out]; exact lexF_end (by omega))
  have hil : i < s.size := by omega
  obtain ⟨k, rfl⟩ : ∃ k', k = k' + 1 := ⟨k - 1, by omega⟩
  by_cases hb : byteAt s i = 32 ∨ byteAt s i = 9 ∨ byteAt s i = 10
  · exact p0_blank hz hS hC h2 hil rfl hb (Lib.hid (by rw [← HI.out, lexF_blank hil hb])) (by omega)
  have HI' : Hid (stepR s k i ts (unit s i) = R) := Lib.hid (by rw [← HI.out, lexF_unit hil hb])
  by_cases hc : byteAt s i = 123 ∧ byteAt s (i + 1) = 45
  · exact p0_com hz hS hC h2 hil hc HI' (by omega)
  cases hom : om (s.extract i (rE sy s i)).data.toList
  · cases h3 : stt (byteAt s i)
    · cases h4 : sy (byteAt s i)
      · cases h5 : dg (byteAt s i)
        · by_cases h6 : byteAt s i = 39
          · exact p0_chr hz hS hC h2 hil rfl hb (by omega) hom h3 h4 h5 h6 HI' (by omega)
          by_cases h7 : byteAt s i = 34
          · exact p0_txt hz hS hC h2 hil rfl hb (by omega) hom h3 h4 h5 h6 h7 HI' (by omega)
          by_cases h9 : byteAt s i = 123
          · exact p0_brace hz hS hC h2 hil h9 rfl (fun hx => hc ⟨h9, hx⟩) hom HI' (by omega)
          cases h8 : spc (byteAt s i)
          · exact p0_bad hz hS hC h2 hil rfl hb h9 hom h3 h4 h5 h6 h7 h8 HI' (by omega)
          · exact p0_spc hz hS hC h2 hil rfl hb h9 hom h3 h4 h5 h6 h7 h8 HI' (by omega)
        · exact p0_dg hz hS hC h2 hil rfl hb (dg_ne h5) hom h3 h4 h5 HI' (by omega)
      · exact p0_sy hz hS hC h2 hil rfl hb (sy_ne h4) hom h3 h4 HI' (by omega)
    · exact p0_id hz hS hC h2 hil rfl hb (stt_ne h3) hom h3 HI' (by omega)
  · exact p0_lin hz hS hC h2 hil rfl hb (by rw [om_head hom]; decide) hom HI' (by omega)
theorem rest0 : restAt Tryz.f23.body 0 = .seq .skip (tailOf (restAt Tryz.f23.body 0)) := by kernel_rfl
theorem pass0 (hz : s.size ≤ 65536) (hJ : JJ W w0 b g s R n 0 a w) : (restAt Tryz.f23.body 0).wp Tryz.prog (jumps (fun l' a' w' => ∃ n', n' < n ∧ JJ W w0 b g s R n' l' a' w') (ScQ W w0 b g s R)) a w := by
  rw [rest0]
  exact wp_seq (wp_skip (pass0t hz hJ))
end
end Go.Proofs.YtakojceggpljoaaGreatDoor
