/-
  WALKS. The scanner's units that are tokens: special characters, character literals.
-/
import Derived.Test.YtakojceggpljoaaGreatDoorLLit
namespace Go.Proofs.YtakojceggpljoaaGreatDoor
open Go.RowKit
/-- A token without its position, as a value. -/
abbrev tkC (t : Tk) : Value := .agg #[.int .i64 t.op, .string t.qual, .string t.text, .int .i64 t.n, .bool false, .int .i64 0, .int .i64 0]
abbrev tkZ : Value := .agg #[.int .i64 0, .string ⟨#[]⟩, .string ⟨#[]⟩, .int .i64 0, .bool false, .int .i64 0, .int .i64 0]
/-- A token's variable that holds nothing yet, at g. -/
def RB (w : World) (g : Nat) : Prop := w.heap[g]? = some (.cells #[.int .i64 0, .string ⟨#[]⟩, .string ⟨#[]⟩, .int .i64 0, .bool false, .int .i64 0, .int .i64 0] 38 (0, 0))
theorem new_block (w : World) (o : Obj) : (w.alloc o).heap[w.heap.size]? = some o := by
  show (w.heap.push o)[w.heap.size]? = _
  simp
theorem RB.new (w : World) : RB (w.alloc (.cells #[.int .i64 0, .string ⟨#[]⟩, .string ⟨#[]⟩, .int .i64 0, .bool false, .int .i64 0, .int .i64 0] 38)) w.heap.size := new_block _ _
theorem RB.only {w w' : World} {g : Nat} {K : Nat → Prop} (h : RB w g) (ho : Only K w w') (hk : ¬ K g) : RB w' g := (ho.block g (lt_of_block h) hk).trans h
theorem RB.c0 {w : World} {g : Nat} (h : RB w g) : w.cell? ⟨g, 0, none⟩ = some (.int .i64 0) := by have h' := h; unfold RB at h'; simp [World.cell?, h']
theorem RB.c1 {w : World} {g : Nat} (h : RB w g) : w.cell? ⟨g, 1, none⟩ = some (.string ⟨#[]⟩) := by have h' := h; unfold RB at h'; simp [World.cell?, h']
theorem RB.c2 {w : World} {g : Nat} (h : RB w g) : w.cell? ⟨g, 2, none⟩ = some (.string ⟨#[]⟩) := by have h' := h; unfold RB at h'; simp [World.cell?, h']
theorem RB.c3 {w : World} {g : Nat} (h : RB w g) : w.cell? ⟨g, 3, none⟩ = some (.int .i64 0) := by have h' := h; unfold RB at h'; simp [World.cell?, h']
theorem RB.c4 {w : World} {g : Nat} (h : RB w g) : w.cell? ⟨g, 4, none⟩ = some (.bool false) := by have h' := h; unfold RB at h'; simp [World.cell?, h']
theorem RB.c5 {w : World} {g : Nat} (h : RB w g) : w.cell? ⟨g, 5, none⟩ = some (.int .i64 0) := by have h' := h; unfold RB at h'; simp [World.cell?, h']
theorem RB.c6 {w : World} {g : Nat} (h : RB w g) : w.cell? ⟨g, 6, none⟩ = some (.int .i64 0) := by have h' := h; unfold RB at h'; simp [World.cell?, h']
theorem RB.fz {w : World} {g : Nat} (h : RB w g) (k : Nat) : w.frozen? ⟨g, k, none⟩ = false := by have h' := h; unfold RB at h'; simp [World.frozen?, h']
/-- What touches beside K new blocks alone. -/
theorem Only.then {K K' : Nat → Prop} {a b c : World} (h : Only K a b) (k : Only K' b c) (hk : ∀ i, K' i → K i ∨ a.heap.size ≤ i) : Only K a c :=
  ⟨k.os.trans h.os, k.tape.trans h.tape, k.output.trans h.output, Nat.le_trans h.size k.size, fun i hi hn => (k.block i (Nat.lt_of_lt_of_le hi h.size) (fun hc => (hk i hc).elim hn (fun hl => by omega))).trans (h.block i hi hn)⟩
/-- Seven cells of block g are stored. -/
theorem Only.set7 (w : World) (g : Nat) (v0 v1 v2 v3 v4 v5 v6 : Value) :
    Only (· = g) w (((((((w.setCell ⟨g, 0, none⟩ v0).setCell ⟨g, 1, none⟩ v1).setCell ⟨g, 2, none⟩ v2).setCell ⟨g, 3, none⟩ v3).setCell ⟨g, 4, none⟩ v4).setCell ⟨g, 5, none⟩ v5).setCell ⟨g, 6, none⟩ v6) :=
  (((((((Only.refl (· = g) w).setCell (k := 0) rfl _).setCell (k := 1) rfl _).setCell (k := 2) rfl _).setCell (k := 3) rfl _).setCell (k := 4) rfl _).setCell (k := 5) rfl _).setCell (k := 6) rfl _
section
variable {w : World} {b : Nat} {s : ByteArray} {i0 i : Nat} {tk : Value} {F : Flt}
theorem Scn.bat_p {H : At} (h : Scn w b s (pos s i0) H tk F) : w.cell? ⟨b, 1, none⟩ = some (.int .i64 i0) := by have := h.bat; rwa [pos_at] at this
theorem Scn.hat_p {B : At} (h : Scn w b s B (pos s i) tk F) : w.cell? ⟨b, 4, none⟩ = some (.int .i64 i) := by have := h.hat; rwa [pos_at] at this
theorem Scn.alloc {B H : At} (h : Scn w b s B H tk F) (o : Obj) : Scn (w.alloc o) b s B H tk F := h.below ((Below.refl _ _).alloc (Nat.le_refl _) _)
theorem Bad.only {w' : World} {f : Flt} {K : Nat → Prop} (h : Bad b s i0 tk f w) (ho : Only K w w') (hk : ¬ K b) : Bad b s i0 tk f w' := by
  obtain ⟨j, hj⟩ := h; exact ⟨j, hj.only ho hk⟩
/-- What a unit that is a token does. -/
def TokPost (w : World) (b : Nat) (s : ByteArray) (i0 : Nat) (tk : Value) (F : Flt) (o : RR Tk) (r : Ending) (w' : World) : Prop :=
  match o with
  | .ok t e => r = .returned (.tuple #[tkC t, .bool true]) ∧ Scn w' b s (pos s i0) (pos s e) tk F ∧ Only (· = b) w w'
  | .bad f => r = .returned (.tuple #[tkZ, .bool false]) ∧ Bad b s i0 tk f w' ∧ Only (· = b) w w'
/-- From the world behind a unit's calls to the one behind the store of its result. -/
theorem tok_ok {w1 w2 : World} {e g : Nat} {t : Tk} {o : Obj} {r : Ending} (hr : r = .returned (.tuple #[tkC t, .bool true])) (h1 : w.heap.size = g) (hb : b < g) (hS : Scn w1 b s (pos s i0) (pos s e) tk F) (hO : Only (· = b) (w.alloc o) w1) (h2 : Only (· = g) w1 w2) :
    TokPost w b s i0 tk F (.ok t e) r w2 :=
  ⟨hr, hS.only h2 (by omega), ((Only.of_below ((Below.refl _ _).alloc (Nat.le_refl _) o)).trans hO).then h2 (fun i hi => .inr (by omega))⟩
theorem tok_bad {w1 w2 : World} {f : Flt} {g : Nat} {o : Obj} {r : Ending} (hr : r = .returned (.tuple #[tkZ, .bool false])) (h1 : w.heap.size = g) (hb : b < g) (hS : Bad b s i0 tk f w1) (hO : Only (· = b) (w.alloc o) w1) (h2 : Only (· = g) w1 w2) :
    TokPost w b s i0 tk F (.bad f) r w2 :=
  ⟨hr, hS.only h2 (by omega), ((Only.of_below ((Below.refl _ _).alloc (Nat.le_refl _) o)).trans hO).then h2 (fun i hi => .inr (by omega))⟩
set_option maxRecDepth 100000 in
set_option maxHeartbeats 1000000 in
theorem special_p (hS : Scn w b s (pos s i) (pos s i) tk F) (hz : s.size ≤ 65536) (hl : i < s.size) :
    Calls Tryz.prog 54 #[.pointer (some ⟨b, 0, none⟩)] w (TokPost w b s i tk F (.ok ⟨8, nil8, s.extract i (i + 1), 0⟩ (i + 1))) := by
  have hSz := hS.lt
  have hR := RB.new w
  have hS0 := hS.alloc (.cells #[.int .i64 0, .string ⟨#[]⟩, .string ⟨#[]⟩, .int .i64 0, .bool false, .int .i64 0, .int .i64 0] 38)
  go_enter Tryz.func54, Tryz.ntmps54
  go_wp2_with (first | (go_at_call 39; refine (skip1 hS0 hz hl).mono ?_; rintro e w4 ⟨rfl, hS4, hO4⟩))
  have hR4 := hR.only hO4 (by omega)
  have c0 := hS4.src'
  have c1 := hS4.bat_p
  have c4 := hS4.hat_p
  have d0 := hR4.c0
  have d1 := hR4.c1
  have d2 := hR4.c2
  have d3 := hR4.c3
  have d4 := hR4.c4
  have d5 := hR4.c5
  have d6 := hR4.c6
  have z0 := hR4.fz 0
  have z1 := hR4.fz 1
  have z2 := hR4.fz 2
  have z3 := hR4.fz 3
  have z4 := hR4.fz 4
  have z5 := hR4.fz 5
  have z6 := hR4.fz 6
  go_region
  all_goals
    go_wp2
    exact bodyPost_ret (v := .tuple #[tkC ⟨8, nil8, s.extract i (i + 1), 0⟩, .bool true]) (by simp [results, Tryz.results54, go_sem, nil8, d0, d1, d2, d3, d4, d5, d6]) rfl (tok_ok rfl rfl hSz hS4 hO4 (Only.set7 _ _ _ _ _ _ _ _ _).drew)
-- GEN
set_option maxRecDepth 100000 in
set_option maxHeartbeats 2000000 in
theorem character_p (hS : Scn w b s (pos s i) (pos s i) tk F) (hz : s.size ≤ 65536) (hl : i < s.size) :
    Calls Tryz.prog 52 #[.pointer (some ⟨b, 0, none⟩)] w (TokPost w b s i tk F (chrR s i)) := by
  have hSz := hS.lt
  have hR := RB.new w
  have hS0 := hS.alloc (.cells #[.int .i64 0, .string ⟨#[]⟩, .string ⟨#[]⟩, .int .i64 0, .bool false, .int .i64 0, .int .i64 0] 38)
  cases ho : litR s 39 i (i + 1) with
  | bad f =>
    have HO := Lib.hid ho
    have HP : Hid (chrR s i = .bad f) := Lib.hid (by unfold chrR; rw [ho])
    clear ho
    rw [HP.out]
    go_enter Tryz.func52, Tryz.ntmps52
    go_wp2_with (first | (go_at_call 39; refine (skip1 hS0 hz hl).mono ?_; rintro e w4 ⟨rfl, hS4, hO4⟩) | (go_at_call 93; refine (literalChar_p hS4 39 hz hl).mono ?_; rw [HO.out]; rintro e w5 ⟨rfl, hS5, hO5⟩; have hO6 := hO4.trans hO5; have hR5 := hR.only hO6 (by omega); have d0 := hR5.c0; have d1 := hR5.c1; have d2 := hR5.c2; have d3 := hR5.c3; have d4 := hR5.c4; have d5 := hR5.c5; have d6 := hR5.c6; have z0 := hR5.fz 0; have z1 := hR5.fz 1; have z2 := hR5.fz 2; have z3 := hR5.fz 3; have z4 := hR5.fz 4; have z5 := hR5.fz 5; have z6 := hR5.fz 6))
    exact bodyPost_ret (v := .tuple #[tkZ, .bool false]) (by simp [results, Tryz.results52, go_sem, d0, d1, d2, d3, d4, d5, d6]) rfl (tok_bad rfl rfl hSz hS5 hO6 (Only.set7 _ _ _ _ _ _ _ _ _))
  | ok c f =>
    have hb := litR_ok ho
    obtain ⟨-, hb1, hb2, hb3⟩ := hb
    have HO := Lib.hid ho
    by_cases hq : byteAt s f = 39
    · have hfl := byteAt_pos (s := s) (i := f) (by omega)
      have HQ := Lib.hid hq
      have HP : Hid (chrR s i = .ok ⟨6, nil8, nil8, c⟩ (f + 1)) := Lib.hid (by unfold chrR; rw [ho]; simp only [hq, if_true])
      clear ho hq
      rw [HP.out]
      go_enter Tryz.func52, Tryz.ntmps52
      go_wp2_with (first | (go_at_call 39; refine (skip1 hS0 hz hl).mono ?_; rintro e w4 ⟨rfl, hS4, hO4⟩) | (go_at_call 93; refine (literalChar_p hS4 39 hz hl).mono ?_; rw [HO.out]; rintro e w5 ⟨rfl, hS5, hO5⟩) | (go_at_call 37; refine (peek0 hS5 HQ.out hz hb1).mono ?_; rintro e w6 ⟨rfl, hO6⟩; have hS6 := hS5.keep hO6) | (go_at_call 39; refine (skip1 hS6 hz hfl).mono ?_; rintro e w7 ⟨rfl, hS7, hO7⟩; have hO8 := ((hO4.trans hO5).trans hO6.lift).trans hO7; have hR7 := hR.only hO8 (by omega); have d0 := hR7.c0; have d1 := hR7.c1; have d2 := hR7.c2; have d3 := hR7.c3; have d4 := hR7.c4; have d5 := hR7.c5; have d6 := hR7.c6; have z0 := hR7.fz 0; have z1 := hR7.fz 1; have z2 := hR7.fz 2; have z3 := hR7.fz 3; have z4 := hR7.fz 4; have z5 := hR7.fz 5; have z6 := hR7.fz 6))
      exact bodyPost_ret (v := .tuple #[tkC ⟨6, nil8, nil8, c⟩, .bool true]) (by simp [results, Tryz.results52, go_sem, nil8, d0, d1, d2, d3, d4, d5, d6]) rfl (tok_ok rfl rfl hSz hS7 hO8 (Only.set7 _ _ _ _ _ _ _ _ _))
    · have HQ : Hid ((byteAt s f != 39) = true) := Lib.hid (by simp [hq])
      have HP : Hid (chrR s i = litBad s i f) := Lib.hid (by unfold chrR; rw [ho]; simp only [hq, if_false])
      clear ho hq
      rw [HP.out]
      unfold litBad
      obtain ⟨y, hy⟩ : ∃ y, byteAt s f = y := ⟨_, rfl⟩
      have e39 : (y != 39) = true := by rw [← hy]; exact HQ.out
      have HY := Lib.hid hy
      clear hy
      go_enter Tryz.func52, Tryz.ntmps52
      go_wp2_with (first | (go_at_call 39; refine (skip1 hS0 hz hl).mono ?_; rintro e w4 ⟨rfl, hS4, hO4⟩) | (go_at_call 93; refine (literalChar_p hS4 39 hz hl).mono ?_; rw [HO.out]; rintro e w5 ⟨rfl, hS5, hO5⟩) | (go_at_call 37; refine (peek0 hS5 HY.out hz hb1).mono ?_; rintro e w6 ⟨rfl, hO6⟩; have hS6 := hS5.keep hO6) | (go_at_call 94; refine (failLit_p hS6 hz hb1).mono ?_; rintro e w7 ⟨rfl, hS7, hO7⟩; have hO8 := ((hO4.trans hO5).trans hO6.lift).trans hO7; have hR7 := hR.only hO8 (by omega); have d0 := hR7.c0; have d1 := hR7.c1; have d2 := hR7.c2; have d3 := hR7.c3; have d4 := hR7.c4; have d5 := hR7.c5; have d6 := hR7.c6; have z0 := hR7.fz 0; have z1 := hR7.fz 1; have z2 := hR7.fz 2; have z3 := hR7.fz 3; have z4 := hR7.fz 4; have z5 := hR7.fz 5; have z6 := hR7.fz 6))
      exact bodyPost_ret (v := .tuple #[tkZ, .bool false]) (by simp [results, Tryz.results52, go_sem, d0, d1, d2, d3, d4, d5, d6]) rfl (tok_bad rfl rfl hSz hS7 hO8 (Only.set7 _ _ _ _ _ _ _ _ _))
theorem intF_stop {s : ByteArray} {i0 : Nat} (k : Nat) {i : Nat} {n : Int} (h : dg (byteAt s i) = false) : intF s i0 k i n = .ok ⟨5, nil8, nil8, n⟩ i := by
  cases k with
  | zero => rfl
  | succ k => unfold intF; rw [h]; rfl
set_option maxRecDepth 100000 in
set_option maxHeartbeats 2000000 in
theorem integer_p (hS : Scn w b s (pos s i) (pos s i) tk F) (hz : s.size ≤ 65536) (hi : i ≤ s.size) :
    Calls Tryz.prog 51 #[.pointer (some ⟨b, 0, none⟩)] w (TokPost w b s i tk F (intR s i)) := by
  have hSz := hS.lt
  have hR := RB.new w
  have hS0 := hS.alloc (.cells #[.int .i64 0, .string ⟨#[]⟩, .string ⟨#[]⟩, .int .i64 0, .bool false, .int .i64 0, .int .i64 0] 38)
  go_enter Tryz.func51, Tryz.ntmps51
  go_wp2
  go_loopg [4] (s.size - i) (fun k n wr => ∃ (j : Nat) (m : Int), n = .int .i64 m ∧ Hid (intF s i k j m = intR s i) ∧ j + k = s.size ∧ 0 ≤ m ∧ m ≤ 9223372036854775807 ∧ Scn wr b s (pos s i) (pos s j) tk F ∧ Only (· = b) (w.alloc (.cells #[.int .i64 0, .string ⟨#[]⟩, .string ⟨#[]⟩, .int .i64 0, .bool false, .int .i64 0, .int .i64 0] 38)) wr)
  case atStart => exact ⟨i, 0, rfl, Lib.hid rfl, by omega, by omega, by omega, hS0, Only.refl _ _⟩
  case round =>
    obtain ⟨j, m, rfl, HI, hj, hm0, hm1, hS1, hO1⟩ := hrel
    have hji : j ≤ s.size := by omega
    obtain ⟨y, hy⟩ : ∃ y, byteAt s j = y := ⟨_, rfl⟩
    have HY := Lib.hid hy
    cases hd : dg y
    · have HP : Hid (intR s i = .ok ⟨5, nil8, nil8, m⟩ j) := Lib.hid (by rw [← HI.out]; exact intF_stop gk (by rw [hy]; exact hd))
      have HD := Lib.hid hd
      clear hd hy
      go_wp2_with (first | (go_at_call 37; ((with_reducible refine (peek0 hS1 HY.out hz hji).mono ?_); rintro e w2 ⟨rfl, hO2⟩; have hS2 := hS1.keep hO2)) | (go_at_call 37; ((with_reducible refine (peek0 hS2 HY.out hz hji).mono ?_); rintro e w4 ⟨rfl, hO4⟩; have hS4 := hS2.keep hO4)) | (go_at_call 44; refine (isDigit_any _ _).mono ?_; rw [HD.out]; rintro e w3 ⟨rfl, rfl⟩; have hO8 := hO1.trans hO2.lift; have hR7 := hR.only hO8 (by omega); have d0 := hR7.c0; have d1 := hR7.c1; have d2 := hR7.c2; have d3 := hR7.c3; have d4 := hR7.c4; have d5 := hR7.c5; have d6 := hR7.c6; have z0 := hR7.fz 0; have z1 := hR7.fz 1; have z2 := hR7.fz 2; have z3 := hR7.fz 3; have z4 := hR7.fz 4; have z5 := hR7.fz 5; have z6 := hR7.fz 6))
      exact bodyPost_ret (v := .tuple #[tkC ⟨5, nil8, nil8, m⟩, .bool true]) (by simp [results, Tryz.results51, go_sem, nil8, d0, d1, d2, d3, d4, d5, d6]) rfl (by rw [HP.out]; exact tok_ok rfl rfl hSz hS2 hO8 (Only.set7 _ _ _ _ _ _ _ _ _))
    · have hb := dg_bd hd
      obtain ⟨hb1, hb2⟩ := hb
      have hjl := byteAt_pos (s := s) (i := j) (by omega)
      obtain ⟨k', hk'⟩ : ∃ k', gk = k' + 1 := ⟨gk - 1, by omega⟩
      subst hk'
      have HD := Lib.hid hd
      by_cases hbig : (9223372036854775807 - (y - 48)) / 10 < m
      · have HP : Hid (intR s i = .bad (flt s 6 nil8 i)) := Lib.hid (by have h := HI.out; unfold intF at h; rw [hy, if_pos hd, if_pos hbig] at h; exact h.symm)
        clear hd hy
        go_wp2_with (first | (go_at_call 37; ((with_reducible refine (peek0 hS1 HY.out hz hji).mono ?_); rintro e w2 ⟨rfl, hO2⟩; have hS2 := hS1.keep hO2)) | (go_at_call 37; ((with_reducible refine (peek0 hS2 HY.out hz hji).mono ?_); rintro e w4 ⟨rfl, hO4⟩; have hS4 := hS2.keep hO4)) | (go_at_call 44; refine (isDigit_any _ _).mono ?_; rw [HD.out]; rintro e w3 ⟨rfl, rfl⟩) | (go_at_call 89; refine (fail_p hS4 6 _).mono ?_; rintro e w5 ⟨rfl, hB5, hO5⟩; have hO8 := ((hO1.trans hO2.lift).trans hO4.lift).trans hO5; have hR7 := hR.only hO8 (by omega); have d0 := hR7.c0; have d1 := hR7.c1; have d2 := hR7.c2; have d3 := hR7.c3; have d4 := hR7.c4; have d5 := hR7.c5; have d6 := hR7.c6; have z0 := hR7.fz 0; have z1 := hR7.fz 1; have z2 := hR7.fz 2; have z3 := hR7.fz 3; have z4 := hR7.fz 4; have z5 := hR7.fz 5; have z6 := hR7.fz 6))
        exact bodyPost_ret (v := .tuple #[tkZ, .bool false]) (by simp [results, Tryz.results51, go_sem, d0, d1, d2, d3, d4, d5, d6]) rfl (by rw [HP.out]; exact tok_bad rfl rfl hSz hB5 hO8 (Only.set7 _ _ _ _ _ _ _ _ _))
      · have HP : Hid (intF s i k' (j + 1) (10 * m + (y - 48)) = intR s i) := Lib.hid (by have h := HI.out; unfold intF at h; rw [hy, if_pos hd, if_neg hbig] at h; exact h)
        clear hd hy
        go_wp2_with (first | (go_at_call 37; ((with_reducible refine (peek0 hS1 HY.out hz hji).mono ?_); rintro e w2 ⟨rfl, hO2⟩; have hS2 := hS1.keep hO2)) | (go_at_call 37; ((with_reducible refine (peek0 hS2 HY.out hz hji).mono ?_); rintro e w4 ⟨rfl, hO4⟩; have hS4 := hS2.keep hO4)) | (go_at_call 44; refine (isDigit_any _ _).mono ?_; rw [HD.out]; rintro e w3 ⟨rfl, rfl⟩) | (go_at_call 39; refine (skip1 hS4 hz hjl).mono ?_; rintro e w5 ⟨rfl, hS5, hO5⟩))
        go_roundg k'
        case rel => exact ⟨j + 1, 10 * m + (y - 48), rfl, HP, by omega, by omega, by omega, hS5, ((hO1.trans hO2.lift).trans hO4.lift).trans hO5⟩
        case measure => omega
end
end Go.Proofs.YtakojceggpljoaaGreatDoor
