/-
  WALKS. The reference's lexer: word.
-/
import Derived.Test.YtelichlplblboaaGreatDoorRl5
namespace Go.Proofs.YtelichlplblboaaGreatDoor
open Go.RowKit Go.Maps
theorem rClassL_v (s : ByteArray) (v : Int) (W w : World) (hs : s.size ≤ 65536) (hv : cls s = v) (hq : Q W w) :
    Calls Tryz.prog 78 #[.string s] w fun e w' => e = .returned (.int .i64 v) ∧ Q W w' ∧ Only (fun _ => False) w w' :=
  (rClassify_any s w w (by omega) hq.self).mono fun _ _ ⟨he, h⟩ => ⟨by rw [he, hv], hq.step h, Only.of_below h.bel⟩
/-- A token's block, as a word of the source begins. -/
def KX (w : World) (g : Nat) (q t : ByteArray) : Prop := w.heap[g]? = some (.cells #[.int .i64 0, .string q, .string t, .int .i64 0, .bool false, .int .i64 0, .int .i64 0] 38 (0, 0))
theorem KX.keep {w w' : World} {g : Nat} {q t : ByteArray} (h : KX w g q t) (ho : Only (fun _ => False) w w') : KX w' g q t := (ho.block g (lt_of_block h) (fun h => h)).trans h
theorem KX.cells {w : World} {g : Nat} {q t : ByteArray} (h : KX w g q t) : w.cell? ⟨g, 0, none⟩ = some (.int .i64 0) ∧ w.cell? ⟨g, 1, none⟩ = some (.string q) ∧ w.cell? ⟨g, 2, none⟩ = some (.string t) ∧ w.cell? ⟨g, 3, none⟩ = some (.int .i64 0) ∧ w.cell? ⟨g, 4, none⟩ = some (.bool false) ∧ w.cell? ⟨g, 5, none⟩ = some (.int .i64 0) ∧ w.cell? ⟨g, 6, none⟩ = some (.int .i64 0) := by
  have h' := h
  unfold KX at h'
  refine ⟨?_, ?_, ?_, ?_, ?_, ?_, ?_⟩ <;> simp [World.cell?, h']
theorem KX.fz {w : World} {g : Nat} {q t : ByteArray} (h : KX w g q t) (k : Nat) : w.frozen? ⟨g, k, none⟩ = false := by have h' := h; unfold KX at h'; simp [World.frozen?, h']
theorem KX.lt {w : World} {g : Nat} {q t : ByteArray} (h : KX w g q t) : g < w.heap.size := lt_of_block h
abbrev kA (w : World) (q t : ByteArray) : World := w.alloc (.cells #[.int .i64 0, .string q, .string t, .int .i64 0, .bool false, .int .i64 0, .int .i64 0] 38)
theorem KX.new (w : World) (q t : ByteArray) : KX (kA w q t) w.heap.size q t := new_block w _
theorem kA_only (w : World) (q t : ByteArray) : Only (fun _ => False) w (kA w q t) := Only.of_below ((Below.refl _ _).alloc (Nat.le_refl _) _)
theorem ext64 {s : ByteArray} {a e : Nat} (h1 : 64 < e - a) : (s.extract a e).extract 0 64 = s.extract a (a + 64) := ext_ext (by omega)
set_option maxRecDepth 100000 in
set_option maxHeartbeats 2000000 in
theorem rword_ut (s : ByteArray) (fr e : Nat) (hae : fr ≤ e) (hes : e ≤ s.size) (w : World) (hz : s.size ≤ 1000000) (hl : 64 < e - fr) :
    Calls Tryz.prog 64 #[.string s, .int .i64 fr, .int .i64 fr, .int .i64 e] w fun r w' => r = .returned (uV 0 ⟨#[]⟩ ⟨#[]⟩ 0 0 3 fr (s.extract fr (fr + 64))) ∧ Only (fun _ => False) w w' := by
  obtain ⟨T, hT⟩ : ∃ T, s.extract fr e = T := ⟨_, rfl⟩
  have hTz : T.size = e - fr := by rw [← hT]; exact ext_size hae hes
  have HX : Hid (T.extract 0 64 = s.extract fr (fr + 64)) := Lib.hid (by rw [← hT]; exact ext64 hl)
  have hU0 := (UX.new w 0 ⟨#[]⟩ ⟨#[]⟩ 0 0 0 0 ⟨#[]⟩).keep (kA_only (uZ w) ⟨#[]⟩ T)
  have hgz := uA_size w 0 ⟨#[]⟩ ⟨#[]⟩ 0 0 0 0 ⟨#[]⟩
  have hK0 : KX (kA (uZ w) ⟨#[]⟩ T) (w.heap.size + 1) ⟨#[]⟩ T := by rw [← hgz]; exact KX.new (uZ w) ⟨#[]⟩ T
  have hOK := (uA_only w 0 ⟨#[]⟩ ⟨#[]⟩ 0 0 0 0 ⟨#[]⟩).trans (kA_only (uZ w) ⟨#[]⟩ T)
  have et1 : decide (64 < (T.size : Int)) = true := by simp; omega
  have hT64 : 64 ≤ T.size := by omega
  go_enter Tryz.func64, Tryz.ntmps64
  go_wp2_with (go_loud (first | (go_at_call 70; ((with_reducible refine (rbad_p _ _ _ _).mono ?_); rintro r w1 ⟨rfl, hO1⟩; have hU1 := hU0.keep hO1; obtain ⟨c0, c1, c2, c3, c4, c5, c6, c7, c8, c9, c10⟩ := hU1.cells; have z0 := hU1.fz 0; have z1 := hU1.fz 1; have z2 := hU1.fz 2; have z3 := hU1.fz 3; have z4 := hU1.fz 4; have z5 := hU1.fz 5; have z6 := hU1.fz 6; have z7 := hU1.fz 7; have z8 := hU1.fz 8; have z9 := hU1.fz 9; have z10 := hU1.fz 10))))
  rw [← HX.out]
  exact bodyPost_ret (v := uV 0 ⟨#[]⟩ ⟨#[]⟩ 0 0 3 fr (T.extract 0 64)) (by simp [results, Tryz.results64, go_sem, c0, c1, c2, c3, c4, c5, c6, c7, c8, c9, c10]) rfl ⟨rfl, own_set (hOK.trans hO1) (Nat.le_refl _) _ _ _ _ _ _ _ _ _ _ _⟩
set_option maxRecDepth 100000 in
set_option maxHeartbeats 4000000 in
theorem rword_u (s : ByteArray) (fr e : Nat) (hae : fr ≤ e) (hes : e ≤ s.size) (W w : World) (hq : Q W w) (hz : s.size ≤ 1000000) (hl : e - fr ≤ 64) :
    Calls Tryz.prog 64 #[.string s, .int .i64 fr, .int .i64 fr, .int .i64 e] w fun r w' => r = .returned (uV (opo (cls (s.extract fr e))) ⟨#[]⟩ (s.extract fr e) 0 e 0 0 ⟨#[]⟩) ∧ Q W w' ∧ Only (fun _ => False) w w' := by
  obtain ⟨T, hT⟩ : ∃ T, s.extract fr e = T := ⟨_, rfl⟩
  have hTz : T.size = e - fr := by rw [← hT]; exact ext_size hae hes
  have hU0 := (UX.new w 0 ⟨#[]⟩ ⟨#[]⟩ 0 0 0 0 ⟨#[]⟩).keep (kA_only (uZ w) ⟨#[]⟩ T)
  have hgz := uA_size w 0 ⟨#[]⟩ ⟨#[]⟩ 0 0 0 0 ⟨#[]⟩
  have hK0 : KX (kA (uZ w) ⟨#[]⟩ T) (w.heap.size + 1) ⟨#[]⟩ T := by rw [← hgz]; exact KX.new (uZ w) ⟨#[]⟩ T
  have hOK := (uA_only w 0 ⟨#[]⟩ ⟨#[]⟩ 0 0 0 0 ⟨#[]⟩).trans (kA_only (uZ w) ⟨#[]⟩ T)
  have et1 : decide (64 < (T.size : Int)) = false := by simp; omega
  have hq0 : Q W (kA (uZ w) ⟨#[]⟩ T) := hq.only hOK (fun _ h => h.elim)
  obtain ⟨c, hc⟩ : ∃ c, cls T = c := ⟨_, rfl⟩
  have hcb := cls_bd T
  rw [hc] at hcb
  have HC := Lib.hid hc
  rw [hT, hc]
  clear hc
  have hcs : c = 0 ∨ c = 1 ∨ c = 2 ∨ c = 3 ∨ c = 4 ∨ c = 5 ∨ c = 6 ∨ c = 7 := by omega
  clear hcb
  rcases hcs with rfl | rfl | rfl | rfl | rfl | rfl | rfl | rfl
  · have HOP : Hid (opo 0 = 0) := Lib.hid (by decide)
    go_enter Tryz.func64, Tryz.ntmps64
    go_wp2_with (go_loud (first | (go_at_call 78; ((with_reducible refine (rClassL_v T 0 W _ (by omega) HC.out hq0).mono ?_); rintro r w1 ⟨rfl, hq1, hO1⟩; have hU1 := hU0.keep hO1; have hK1 := hK0.keep hO1; have hO2 := hOK.trans hO1; obtain ⟨c0, c1, c2, c3, c4, c5, c6, c7, c8, c9, c10⟩ := hU1.cells; have z0 := hU1.fz 0; have z1 := hU1.fz 1; have z2 := hU1.fz 2; have z3 := hU1.fz 3; have z4 := hU1.fz 4; have z5 := hU1.fz 5; have z6 := hU1.fz 6; have z7 := hU1.fz 7; have z8 := hU1.fz 8; have z9 := hU1.fz 9; have z10 := hU1.fz 10; obtain ⟨k0, k1, k2, k3, k4, k5, k6⟩ := hK1.cells; have j0 := hK1.fz 0))))
    rw [HOP.out]
    exact bodyPost_ret (v := uV 0 ⟨#[]⟩ T 0 e 0 0 ⟨#[]⟩) (by simp [results, Tryz.results64, go_sem, c0, c1, c2, c3, c4, c5, c6, c7, c8, c9, c10]) rfl ⟨rfl, (fun hF => ⟨hq.only hF (fun _ h => h.elim), hF⟩) (own_set (hO2) (Nat.le_refl _) _ _ _ _ _ _ _ _ _ _ _)⟩
  · have HOP : Hid (opo 1 = 1) := Lib.hid (by decide)
    go_enter Tryz.func64, Tryz.ntmps64
    go_wp2_with (go_loud (first | (go_at_call 78; ((with_reducible refine (rClassL_v T 1 W _ (by omega) HC.out hq0).mono ?_); rintro r w1 ⟨rfl, hq1, hO1⟩; have hU1 := hU0.keep hO1; have hK1 := hK0.keep hO1; have hO2 := hOK.trans hO1; obtain ⟨c0, c1, c2, c3, c4, c5, c6, c7, c8, c9, c10⟩ := hU1.cells; have z0 := hU1.fz 0; have z1 := hU1.fz 1; have z2 := hU1.fz 2; have z3 := hU1.fz 3; have z4 := hU1.fz 4; have z5 := hU1.fz 5; have z6 := hU1.fz 6; have z7 := hU1.fz 7; have z8 := hU1.fz 8; have z9 := hU1.fz 9; have z10 := hU1.fz 10; obtain ⟨k0, k1, k2, k3, k4, k5, k6⟩ := hK1.cells; have j0 := hK1.fz 0))))
    rw [HOP.out]
    exact bodyPost_ret (v := uV 1 ⟨#[]⟩ T 0 e 0 0 ⟨#[]⟩) (by simp [results, Tryz.results64, go_sem, c0, c1, c2, c3, c4, c5, c6, c7, c8, c9, c10]) rfl ⟨rfl, (fun hF => ⟨hq.only hF (fun _ h => h.elim), hF⟩) (own_set ((hO2.then ((Only.refl (· = w.heap.size + 1) _).setCell (k := 0) rfl _) (fun i hi => .inr (by omega)))) (Nat.le_refl _) _ _ _ _ _ _ _ _ _ _ _)⟩
  · have HOP : Hid (opo 2 = 2) := Lib.hid (by decide)
    go_enter Tryz.func64, Tryz.ntmps64
    go_wp2_with (go_loud (first | (go_at_call 78; ((with_reducible refine (rClassL_v T 2 W _ (by omega) HC.out hq0).mono ?_); rintro r w1 ⟨rfl, hq1, hO1⟩; have hU1 := hU0.keep hO1; have hK1 := hK0.keep hO1; have hO2 := hOK.trans hO1; obtain ⟨c0, c1, c2, c3, c4, c5, c6, c7, c8, c9, c10⟩ := hU1.cells; have z0 := hU1.fz 0; have z1 := hU1.fz 1; have z2 := hU1.fz 2; have z3 := hU1.fz 3; have z4 := hU1.fz 4; have z5 := hU1.fz 5; have z6 := hU1.fz 6; have z7 := hU1.fz 7; have z8 := hU1.fz 8; have z9 := hU1.fz 9; have z10 := hU1.fz 10; obtain ⟨k0, k1, k2, k3, k4, k5, k6⟩ := hK1.cells; have j0 := hK1.fz 0))))
    rw [HOP.out]
    exact bodyPost_ret (v := uV 2 ⟨#[]⟩ T 0 e 0 0 ⟨#[]⟩) (by simp [results, Tryz.results64, go_sem, c0, c1, c2, c3, c4, c5, c6, c7, c8, c9, c10]) rfl ⟨rfl, (fun hF => ⟨hq.only hF (fun _ h => h.elim), hF⟩) (own_set ((hO2.then ((Only.refl (· = w.heap.size + 1) _).setCell (k := 0) rfl _) (fun i hi => .inr (by omega)))) (Nat.le_refl _) _ _ _ _ _ _ _ _ _ _ _)⟩
  · have HOP : Hid (opo 3 = 3) := Lib.hid (by decide)
    go_enter Tryz.func64, Tryz.ntmps64
    go_wp2_with (go_loud (first | (go_at_call 78; ((with_reducible refine (rClassL_v T 3 W _ (by omega) HC.out hq0).mono ?_); rintro r w1 ⟨rfl, hq1, hO1⟩; have hU1 := hU0.keep hO1; have hK1 := hK0.keep hO1; have hO2 := hOK.trans hO1; obtain ⟨c0, c1, c2, c3, c4, c5, c6, c7, c8, c9, c10⟩ := hU1.cells; have z0 := hU1.fz 0; have z1 := hU1.fz 1; have z2 := hU1.fz 2; have z3 := hU1.fz 3; have z4 := hU1.fz 4; have z5 := hU1.fz 5; have z6 := hU1.fz 6; have z7 := hU1.fz 7; have z8 := hU1.fz 8; have z9 := hU1.fz 9; have z10 := hU1.fz 10; obtain ⟨k0, k1, k2, k3, k4, k5, k6⟩ := hK1.cells; have j0 := hK1.fz 0))))
    rw [HOP.out]
    exact bodyPost_ret (v := uV 3 ⟨#[]⟩ T 0 e 0 0 ⟨#[]⟩) (by simp [results, Tryz.results64, go_sem, c0, c1, c2, c3, c4, c5, c6, c7, c8, c9, c10]) rfl ⟨rfl, (fun hF => ⟨hq.only hF (fun _ h => h.elim), hF⟩) (own_set ((hO2.then ((Only.refl (· = w.heap.size + 1) _).setCell (k := 0) rfl _) (fun i hi => .inr (by omega)))) (Nat.le_refl _) _ _ _ _ _ _ _ _ _ _ _)⟩
  · have HOP : Hid (opo 4 = 4) := Lib.hid (by decide)
    go_enter Tryz.func64, Tryz.ntmps64
    go_wp2_with (go_loud (first | (go_at_call 78; ((with_reducible refine (rClassL_v T 4 W _ (by omega) HC.out hq0).mono ?_); rintro r w1 ⟨rfl, hq1, hO1⟩; have hU1 := hU0.keep hO1; have hK1 := hK0.keep hO1; have hO2 := hOK.trans hO1; obtain ⟨c0, c1, c2, c3, c4, c5, c6, c7, c8, c9, c10⟩ := hU1.cells; have z0 := hU1.fz 0; have z1 := hU1.fz 1; have z2 := hU1.fz 2; have z3 := hU1.fz 3; have z4 := hU1.fz 4; have z5 := hU1.fz 5; have z6 := hU1.fz 6; have z7 := hU1.fz 7; have z8 := hU1.fz 8; have z9 := hU1.fz 9; have z10 := hU1.fz 10; obtain ⟨k0, k1, k2, k3, k4, k5, k6⟩ := hK1.cells; have j0 := hK1.fz 0))))
    rw [HOP.out]
    exact bodyPost_ret (v := uV 4 ⟨#[]⟩ T 0 e 0 0 ⟨#[]⟩) (by simp [results, Tryz.results64, go_sem, c0, c1, c2, c3, c4, c5, c6, c7, c8, c9, c10]) rfl ⟨rfl, (fun hF => ⟨hq.only hF (fun _ h => h.elim), hF⟩) (own_set ((hO2.then ((Only.refl (· = w.heap.size + 1) _).setCell (k := 0) rfl _) (fun i hi => .inr (by omega)))) (Nat.le_refl _) _ _ _ _ _ _ _ _ _ _ _)⟩
  · have HOP : Hid (opo 5 = 9) := Lib.hid (by decide)
    go_enter Tryz.func64, Tryz.ntmps64
    go_wp2_with (go_loud (first | (go_at_call 78; ((with_reducible refine (rClassL_v T 5 W _ (by omega) HC.out hq0).mono ?_); rintro r w1 ⟨rfl, hq1, hO1⟩; have hU1 := hU0.keep hO1; have hK1 := hK0.keep hO1; have hO2 := hOK.trans hO1; obtain ⟨c0, c1, c2, c3, c4, c5, c6, c7, c8, c9, c10⟩ := hU1.cells; have z0 := hU1.fz 0; have z1 := hU1.fz 1; have z2 := hU1.fz 2; have z3 := hU1.fz 3; have z4 := hU1.fz 4; have z5 := hU1.fz 5; have z6 := hU1.fz 6; have z7 := hU1.fz 7; have z8 := hU1.fz 8; have z9 := hU1.fz 9; have z10 := hU1.fz 10; obtain ⟨k0, k1, k2, k3, k4, k5, k6⟩ := hK1.cells; have j0 := hK1.fz 0))))
    rw [HOP.out]
    exact bodyPost_ret (v := uV 9 ⟨#[]⟩ T 0 e 0 0 ⟨#[]⟩) (by simp [results, Tryz.results64, go_sem, c0, c1, c2, c3, c4, c5, c6, c7, c8, c9, c10]) rfl ⟨rfl, (fun hF => ⟨hq.only hF (fun _ h => h.elim), hF⟩) (own_set ((hO2.then ((Only.refl (· = w.heap.size + 1) _).setCell (k := 0) rfl _) (fun i hi => .inr (by omega)))) (Nat.le_refl _) _ _ _ _ _ _ _ _ _ _ _)⟩
  · have HOP : Hid (opo 6 = 10) := Lib.hid (by decide)
    go_enter Tryz.func64, Tryz.ntmps64
    go_wp2_with (go_loud (first | (go_at_call 78; ((with_reducible refine (rClassL_v T 6 W _ (by omega) HC.out hq0).mono ?_); rintro r w1 ⟨rfl, hq1, hO1⟩; have hU1 := hU0.keep hO1; have hK1 := hK0.keep hO1; have hO2 := hOK.trans hO1; obtain ⟨c0, c1, c2, c3, c4, c5, c6, c7, c8, c9, c10⟩ := hU1.cells; have z0 := hU1.fz 0; have z1 := hU1.fz 1; have z2 := hU1.fz 2; have z3 := hU1.fz 3; have z4 := hU1.fz 4; have z5 := hU1.fz 5; have z6 := hU1.fz 6; have z7 := hU1.fz 7; have z8 := hU1.fz 8; have z9 := hU1.fz 9; have z10 := hU1.fz 10; obtain ⟨k0, k1, k2, k3, k4, k5, k6⟩ := hK1.cells; have j0 := hK1.fz 0))))
    rw [HOP.out]
    exact bodyPost_ret (v := uV 10 ⟨#[]⟩ T 0 e 0 0 ⟨#[]⟩) (by simp [results, Tryz.results64, go_sem, c0, c1, c2, c3, c4, c5, c6, c7, c8, c9, c10]) rfl ⟨rfl, (fun hF => ⟨hq.only hF (fun _ h => h.elim), hF⟩) (own_set ((hO2.then ((Only.refl (· = w.heap.size + 1) _).setCell (k := 0) rfl _) (fun i hi => .inr (by omega)))) (Nat.le_refl _) _ _ _ _ _ _ _ _ _ _ _)⟩
  · have HOP : Hid (opo 7 = 0) := Lib.hid (by decide)
    go_enter Tryz.func64, Tryz.ntmps64
    go_wp2_with (go_loud (first | (go_at_call 78; ((with_reducible refine (rClassL_v T 7 W _ (by omega) HC.out hq0).mono ?_); rintro r w1 ⟨rfl, hq1, hO1⟩; have hU1 := hU0.keep hO1; have hK1 := hK0.keep hO1; have hO2 := hOK.trans hO1; obtain ⟨c0, c1, c2, c3, c4, c5, c6, c7, c8, c9, c10⟩ := hU1.cells; have z0 := hU1.fz 0; have z1 := hU1.fz 1; have z2 := hU1.fz 2; have z3 := hU1.fz 3; have z4 := hU1.fz 4; have z5 := hU1.fz 5; have z6 := hU1.fz 6; have z7 := hU1.fz 7; have z8 := hU1.fz 8; have z9 := hU1.fz 9; have z10 := hU1.fz 10; obtain ⟨k0, k1, k2, k3, k4, k5, k6⟩ := hK1.cells; have j0 := hK1.fz 0))))
    rw [HOP.out]
    exact bodyPost_ret (v := uV 0 ⟨#[]⟩ T 0 e 0 0 ⟨#[]⟩) (by simp [results, Tryz.results64, go_sem, c0, c1, c2, c3, c4, c5, c6, c7, c8, c9, c10]) rfl ⟨rfl, (fun hF => ⟨hq.only hF (fun _ h => h.elim), hF⟩) (own_set (hO2) (Nat.le_refl _) _ _ _ _ _ _ _ _ _ _ _)⟩
set_option maxRecDepth 100000 in
set_option maxHeartbeats 2000000 in
theorem rword_ql (s : ByteArray) (fr a e : Nat) (hfa : fr < a) (hae : a ≤ e) (hes : e ≤ s.size) (w : World) (hz : s.size ≤ 1000000) (hl : 64 < a - 1 - fr) :
    Calls Tryz.prog 64 #[.string s, .int .i64 fr, .int .i64 a, .int .i64 e] w fun r w' => r = .returned (uV 0 ⟨#[]⟩ ⟨#[]⟩ 0 0 3 fr (s.extract fr (fr + 64))) ∧ Only (fun _ => False) w w' := by
  obtain ⟨T, hT⟩ : ∃ T, s.extract a e = T := ⟨_, rfl⟩
  have hTz : T.size = e - a := by rw [← hT]; exact ext_size hae hes
  obtain ⟨QQ, hQ⟩ : ∃ QQ, s.extract fr (a - 1) = QQ := ⟨_, rfl⟩
  have hQz : QQ.size = a - 1 - fr := by rw [← hQ]; exact ext_size (by omega) (by omega)
  have hSQ : s.extract fr (a - 1) = QQ := hQ
  have hfa' : (fr : Int) < (a : Int) := by omega
  have HX : Hid (QQ.extract 0 64 = s.extract fr (fr + 64)) := Lib.hid (by rw [← hQ]; exact ext64 hl)
  have hU0 := (UX.new w 0 ⟨#[]⟩ ⟨#[]⟩ 0 0 0 0 ⟨#[]⟩).keep (kA_only (uZ w) QQ T)
  have hgz := uA_size w 0 ⟨#[]⟩ ⟨#[]⟩ 0 0 0 0 ⟨#[]⟩
  have hK0 : KX (kA (uZ w) QQ T) (w.heap.size + 1) QQ T := by rw [← hgz]; exact KX.new (uZ w) QQ T
  have hOK := (uA_only w 0 ⟨#[]⟩ ⟨#[]⟩ 0 0 0 0 ⟨#[]⟩).trans (kA_only (uZ w) QQ T)
  have eq1 : decide (64 < (QQ.size : Int)) = true := by simp; omega
  have hQ64 : 64 ≤ QQ.size := by omega
  clear hQ
  go_enter Tryz.func64, Tryz.ntmps64
  go_wp2_with (go_loud (first | (go_at_call 70; ((with_reducible refine (rbad_p _ _ _ _).mono ?_); rintro r w1 ⟨rfl, hO1⟩; have hU1 := hU0.keep hO1; obtain ⟨c0, c1, c2, c3, c4, c5, c6, c7, c8, c9, c10⟩ := hU1.cells; have z0 := hU1.fz 0; have z1 := hU1.fz 1; have z2 := hU1.fz 2; have z3 := hU1.fz 3; have z4 := hU1.fz 4; have z5 := hU1.fz 5; have z6 := hU1.fz 6; have z7 := hU1.fz 7; have z8 := hU1.fz 8; have z9 := hU1.fz 9; have z10 := hU1.fz 10))))
  rw [← HX.out]
  exact bodyPost_ret (v := uV 0 ⟨#[]⟩ ⟨#[]⟩ 0 0 3 fr (QQ.extract 0 64)) (by simp [results, Tryz.results64, go_sem, c0, c1, c2, c3, c4, c5, c6, c7, c8, c9, c10]) rfl ⟨rfl, own_set (hOK.trans hO1) (Nat.le_refl _) _ _ _ _ _ _ _ _ _ _ _⟩
set_option maxRecDepth 100000 in
set_option maxHeartbeats 2000000 in
theorem rword_qt (s : ByteArray) (fr a e : Nat) (hfa : fr < a) (hae : a ≤ e) (hes : e ≤ s.size) (hq64 : a - 1 - fr ≤ 64) (w : World) (hz : s.size ≤ 1000000) (hl : 64 < e - a) :
    Calls Tryz.prog 64 #[.string s, .int .i64 fr, .int .i64 a, .int .i64 e] w fun r w' => r = .returned (uV 0 ⟨#[]⟩ ⟨#[]⟩ 0 0 3 fr (s.extract a (a + 64))) ∧ Only (fun _ => False) w w' := by
  obtain ⟨T, hT⟩ : ∃ T, s.extract a e = T := ⟨_, rfl⟩
  have hTz : T.size = e - a := by rw [← hT]; exact ext_size hae hes
  obtain ⟨QQ, hQ⟩ : ∃ QQ, s.extract fr (a - 1) = QQ := ⟨_, rfl⟩
  have hQz : QQ.size = a - 1 - fr := by rw [← hQ]; exact ext_size (by omega) (by omega)
  have hSQ : s.extract fr (a - 1) = QQ := hQ
  have hfa' : (fr : Int) < (a : Int) := by omega
  have HX : Hid (T.extract 0 64 = s.extract a (a + 64)) := Lib.hid (by rw [← hT]; exact ext64 hl)
  have hU0 := (UX.new w 0 ⟨#[]⟩ ⟨#[]⟩ 0 0 0 0 ⟨#[]⟩).keep (kA_only (uZ w) QQ T)
  have hgz := uA_size w 0 ⟨#[]⟩ ⟨#[]⟩ 0 0 0 0 ⟨#[]⟩
  have hK0 : KX (kA (uZ w) QQ T) (w.heap.size + 1) QQ T := by rw [← hgz]; exact KX.new (uZ w) QQ T
  have hOK := (uA_only w 0 ⟨#[]⟩ ⟨#[]⟩ 0 0 0 0 ⟨#[]⟩).trans (kA_only (uZ w) QQ T)
  have eq1 : decide (64 < (QQ.size : Int)) = false := by simp; omega
  have et1 : decide (64 < (T.size : Int)) = true := by simp; omega
  have hT64 : 64 ≤ T.size := by omega
  go_enter Tryz.func64, Tryz.ntmps64
  go_wp2_with (go_loud (first | (go_at_call 70; ((with_reducible refine (rbad_p _ _ _ _).mono ?_); rintro r w1 ⟨rfl, hO1⟩; have hU1 := hU0.keep hO1; obtain ⟨c0, c1, c2, c3, c4, c5, c6, c7, c8, c9, c10⟩ := hU1.cells; have z0 := hU1.fz 0; have z1 := hU1.fz 1; have z2 := hU1.fz 2; have z3 := hU1.fz 3; have z4 := hU1.fz 4; have z5 := hU1.fz 5; have z6 := hU1.fz 6; have z7 := hU1.fz 7; have z8 := hU1.fz 8; have z9 := hU1.fz 9; have z10 := hU1.fz 10))))
  rw [← HX.out]
  exact bodyPost_ret (v := uV 0 ⟨#[]⟩ ⟨#[]⟩ 0 0 3 fr (T.extract 0 64)) (by simp [results, Tryz.results64, go_sem, c0, c1, c2, c3, c4, c5, c6, c7, c8, c9, c10]) rfl ⟨rfl, own_set (hOK.trans hO1) (Nat.le_refl _) _ _ _ _ _ _ _ _ _ _ _⟩
set_option maxRecDepth 100000 in
set_option maxHeartbeats 4000000 in
theorem rword_q (s : ByteArray) (fr a e : Nat) (hfa : fr < a) (hae : a ≤ e) (hes : e ≤ s.size) (hq64 : a - 1 - fr ≤ 64) (W w : World) (hq : Q W w) (hz : s.size ≤ 1000000) (hl : e - a ≤ 64) :
    Calls Tryz.prog 64 #[.string s, .int .i64 fr, .int .i64 a, .int .i64 e] w fun r w' => r = .returned (uV (opo (cls (s.extract a e))) (s.extract fr (a - 1)) (s.extract a e) 0 e 0 0 ⟨#[]⟩) ∧ Q W w' ∧ Only (fun _ => False) w w' := by
  obtain ⟨T, hT⟩ : ∃ T, s.extract a e = T := ⟨_, rfl⟩
  have hTz : T.size = e - a := by rw [← hT]; exact ext_size hae hes
  obtain ⟨QQ, hQ⟩ : ∃ QQ, s.extract fr (a - 1) = QQ := ⟨_, rfl⟩
  have hQz : QQ.size = a - 1 - fr := by rw [← hQ]; exact ext_size (by omega) (by omega)
  have hSQ : s.extract fr (a - 1) = QQ := hQ
  have hfa' : (fr : Int) < (a : Int) := by omega
  have hU0 := (UX.new w 0 ⟨#[]⟩ ⟨#[]⟩ 0 0 0 0 ⟨#[]⟩).keep (kA_only (uZ w) QQ T)
  have hgz := uA_size w 0 ⟨#[]⟩ ⟨#[]⟩ 0 0 0 0 ⟨#[]⟩
  have hK0 : KX (kA (uZ w) QQ T) (w.heap.size + 1) QQ T := by rw [← hgz]; exact KX.new (uZ w) QQ T
  have hOK := (uA_only w 0 ⟨#[]⟩ ⟨#[]⟩ 0 0 0 0 ⟨#[]⟩).trans (kA_only (uZ w) QQ T)
  have eq1 : decide (64 < (QQ.size : Int)) = false := by simp; omega
  have et1 : decide (64 < (T.size : Int)) = false := by simp; omega
  have hq0 : Q W (kA (uZ w) QQ T) := hq.only hOK (fun _ h => h.elim)
  obtain ⟨c, hc⟩ : ∃ c, cls T = c := ⟨_, rfl⟩
  have hcb := cls_bd T
  rw [hc] at hcb
  have HC := Lib.hid hc
  rw [hT, hQ, hc]
  clear hc
  have hcs : c = 0 ∨ c = 1 ∨ c = 2 ∨ c = 3 ∨ c = 4 ∨ c = 5 ∨ c = 6 ∨ c = 7 := by omega
  clear hcb
  rcases hcs with rfl | rfl | rfl | rfl | rfl | rfl | rfl | rfl
  · have HOP : Hid (opo 0 = 0) := Lib.hid (by decide)
    go_enter Tryz.func64, Tryz.ntmps64
    go_wp2_with (go_loud (first | (go_at_call 78; ((with_reducible refine (rClassL_v T 0 W _ (by omega) HC.out hq0).mono ?_); rintro r w1 ⟨rfl, hq1, hO1⟩; have hU1 := hU0.keep hO1; have hK1 := hK0.keep hO1; have hO2 := hOK.trans hO1; obtain ⟨c0, c1, c2, c3, c4, c5, c6, c7, c8, c9, c10⟩ := hU1.cells; have z0 := hU1.fz 0; have z1 := hU1.fz 1; have z2 := hU1.fz 2; have z3 := hU1.fz 3; have z4 := hU1.fz 4; have z5 := hU1.fz 5; have z6 := hU1.fz 6; have z7 := hU1.fz 7; have z8 := hU1.fz 8; have z9 := hU1.fz 9; have z10 := hU1.fz 10; obtain ⟨k0, k1, k2, k3, k4, k5, k6⟩ := hK1.cells; have j0 := hK1.fz 0))))
    rw [HOP.out]
    exact bodyPost_ret (v := uV 0 QQ T 0 e 0 0 ⟨#[]⟩) (by simp [results, Tryz.results64, go_sem, c0, c1, c2, c3, c4, c5, c6, c7, c8, c9, c10]) rfl ⟨rfl, (fun hF => ⟨hq.only hF (fun _ h => h.elim), hF⟩) (own_set (hO2) (Nat.le_refl _) _ _ _ _ _ _ _ _ _ _ _)⟩
  · have HOP : Hid (opo 1 = 1) := Lib.hid (by decide)
    go_enter Tryz.func64, Tryz.ntmps64
    go_wp2_with (go_loud (first | (go_at_call 78; ((with_reducible refine (rClassL_v T 1 W _ (by omega) HC.out hq0).mono ?_); rintro r w1 ⟨rfl, hq1, hO1⟩; have hU1 := hU0.keep hO1; have hK1 := hK0.keep hO1; have hO2 := hOK.trans hO1; obtain ⟨c0, c1, c2, c3, c4, c5, c6, c7, c8, c9, c10⟩ := hU1.cells; have z0 := hU1.fz 0; have z1 := hU1.fz 1; have z2 := hU1.fz 2; have z3 := hU1.fz 3; have z4 := hU1.fz 4; have z5 := hU1.fz 5; have z6 := hU1.fz 6; have z7 := hU1.fz 7; have z8 := hU1.fz 8; have z9 := hU1.fz 9; have z10 := hU1.fz 10; obtain ⟨k0, k1, k2, k3, k4, k5, k6⟩ := hK1.cells; have j0 := hK1.fz 0))))
    rw [HOP.out]
    exact bodyPost_ret (v := uV 1 QQ T 0 e 0 0 ⟨#[]⟩) (by simp [results, Tryz.results64, go_sem, c0, c1, c2, c3, c4, c5, c6, c7, c8, c9, c10]) rfl ⟨rfl, (fun hF => ⟨hq.only hF (fun _ h => h.elim), hF⟩) (own_set ((hO2.then ((Only.refl (· = w.heap.size + 1) _).setCell (k := 0) rfl _) (fun i hi => .inr (by omega)))) (Nat.le_refl _) _ _ _ _ _ _ _ _ _ _ _)⟩
  · have HOP : Hid (opo 2 = 2) := Lib.hid (by decide)
    go_enter Tryz.func64, Tryz.ntmps64
    go_wp2_with (go_loud (first | (go_at_call 78; ((with_reducible refine (rClassL_v T 2 W _ (by omega) HC.out hq0).mono ?_); rintro r w1 ⟨rfl, hq1, hO1⟩; have hU1 := hU0.keep hO1; have hK1 := hK0.keep hO1; have hO2 := hOK.trans hO1; obtain ⟨c0, c1, c2, c3, c4, c5, c6, c7, c8, c9, c10⟩ := hU1.cells; have z0 := hU1.fz 0; have z1 := hU1.fz 1; have z2 := hU1.fz 2; have z3 := hU1.fz 3; have z4 := hU1.fz 4; have z5 := hU1.fz 5; have z6 := hU1.fz 6; have z7 := hU1.fz 7; have z8 := hU1.fz 8; have z9 := hU1.fz 9; have z10 := hU1.fz 10; obtain ⟨k0, k1, k2, k3, k4, k5, k6⟩ := hK1.cells; have j0 := hK1.fz 0))))
    rw [HOP.out]
    exact bodyPost_ret (v := uV 2 QQ T 0 e 0 0 ⟨#[]⟩) (by simp [results, Tryz.results64, go_sem, c0, c1, c2, c3, c4, c5, c6, c7, c8, c9, c10]) rfl ⟨rfl, (fun hF => ⟨hq.only hF (fun _ h => h.elim), hF⟩) (own_set ((hO2.then ((Only.refl (· = w.heap.size + 1) _).setCell (k := 0) rfl _) (fun i hi => .inr (by omega)))) (Nat.le_refl _) _ _ _ _ _ _ _ _ _ _ _)⟩
  · have HOP : Hid (opo 3 = 3) := Lib.hid (by decide)
    go_enter Tryz.func64, Tryz.ntmps64
    go_wp2_with (go_loud (first | (go_at_call 78; ((with_reducible refine (rClassL_v T 3 W _ (by omega) HC.out hq0).mono ?_); rintro r w1 ⟨rfl, hq1, hO1⟩; have hU1 := hU0.keep hO1; have hK1 := hK0.keep hO1; have hO2 := hOK.trans hO1; obtain ⟨c0, c1, c2, c3, c4, c5, c6, c7, c8, c9, c10⟩ := hU1.cells; have z0 := hU1.fz 0; have z1 := hU1.fz 1; have z2 := hU1.fz 2; have z3 := hU1.fz 3; have z4 := hU1.fz 4; have z5 := hU1.fz 5; have z6 := hU1.fz 6; have z7 := hU1.fz 7; have z8 := hU1.fz 8; have z9 := hU1.fz 9; have z10 := hU1.fz 10; obtain ⟨k0, k1, k2, k3, k4, k5, k6⟩ := hK1.cells; have j0 := hK1.fz 0))))
    rw [HOP.out]
    exact bodyPost_ret (v := uV 3 QQ T 0 e 0 0 ⟨#[]⟩) (by simp [results, Tryz.results64, go_sem, c0, c1, c2, c3, c4, c5, c6, c7, c8, c9, c10]) rfl ⟨rfl, (fun hF => ⟨hq.only hF (fun _ h => h.elim), hF⟩) (own_set ((hO2.then ((Only.refl (· = w.heap.size + 1) _).setCell (k := 0) rfl _) (fun i hi => .inr (by omega)))) (Nat.le_refl _) _ _ _ _ _ _ _ _ _ _ _)⟩
  · have HOP : Hid (opo 4 = 4) := Lib.hid (by decide)
    go_enter Tryz.func64, Tryz.ntmps64
    go_wp2_with (go_loud (first | (go_at_call 78; ((with_reducible refine (rClassL_v T 4 W _ (by omega) HC.out hq0).mono ?_); rintro r w1 ⟨rfl, hq1, hO1⟩; have hU1 := hU0.keep hO1; have hK1 := hK0.keep hO1; have hO2 := hOK.trans hO1; obtain ⟨c0, c1, c2, c3, c4, c5, c6, c7, c8, c9, c10⟩ := hU1.cells; have z0 := hU1.fz 0; have z1 := hU1.fz 1; have z2 := hU1.fz 2; have z3 := hU1.fz 3; have z4 := hU1.fz 4; have z5 := hU1.fz 5; have z6 := hU1.fz 6; have z7 := hU1.fz 7; have z8 := hU1.fz 8; have z9 := hU1.fz 9; have z10 := hU1.fz 10; obtain ⟨k0, k1, k2, k3, k4, k5, k6⟩ := hK1.cells; have j0 := hK1.fz 0))))
    rw [HOP.out]
    exact bodyPost_ret (v := uV 4 QQ T 0 e 0 0 ⟨#[]⟩) (by simp [results, Tryz.results64, go_sem, c0, c1, c2, c3, c4, c5, c6, c7, c8, c9, c10]) rfl ⟨rfl, (fun hF => ⟨hq.only hF (fun _ h => h.elim), hF⟩) (own_set ((hO2.then ((Only.refl (· = w.heap.size + 1) _).setCell (k := 0) rfl _) (fun i hi => .inr (by omega)))) (Nat.le_refl _) _ _ _ _ _ _ _ _ _ _ _)⟩
  · have HOP : Hid (opo 5 = 9) := Lib.hid (by decide)
    go_enter Tryz.func64, Tryz.ntmps64
    go_wp2_with (go_loud (first | (go_at_call 78; ((with_reducible refine (rClassL_v T 5 W _ (by omega) HC.out hq0).mono ?_); rintro r w1 ⟨rfl, hq1, hO1⟩; have hU1 := hU0.keep hO1; have hK1 := hK0.keep hO1; have hO2 := hOK.trans hO1; obtain ⟨c0, c1, c2, c3, c4, c5, c6, c7, c8, c9, c10⟩ := hU1.cells; have z0 := hU1.fz 0; have z1 := hU1.fz 1; have z2 := hU1.fz 2; have z3 := hU1.fz 3; have z4 := hU1.fz 4; have z5 := hU1.fz 5; have z6 := hU1.fz 6; have z7 := hU1.fz 7; have z8 := hU1.fz 8; have z9 := hU1.fz 9; have z10 := hU1.fz 10; obtain ⟨k0, k1, k2, k3, k4, k5, k6⟩ := hK1.cells; have j0 := hK1.fz 0))))
    rw [HOP.out]
    exact bodyPost_ret (v := uV 9 QQ T 0 e 0 0 ⟨#[]⟩) (by simp [results, Tryz.results64, go_sem, c0, c1, c2, c3, c4, c5, c6, c7, c8, c9, c10]) rfl ⟨rfl, (fun hF => ⟨hq.only hF (fun _ h => h.elim), hF⟩) (own_set ((hO2.then ((Only.refl (· = w.heap.size + 1) _).setCell (k := 0) rfl _) (fun i hi => .inr (by omega)))) (Nat.le_refl _) _ _ _ _ _ _ _ _ _ _ _)⟩
  · have HOP : Hid (opo 6 = 10) := Lib.hid (by decide)
    go_enter Tryz.func64, Tryz.ntmps64
    go_wp2_with (go_loud (first | (go_at_call 78; ((with_reducible refine (rClassL_v T 6 W _ (by omega) HC.out hq0).mono ?_); rintro r w1 ⟨rfl, hq1, hO1⟩; have hU1 := hU0.keep hO1; have hK1 := hK0.keep hO1; have hO2 := hOK.trans hO1; obtain ⟨c0, c1, c2, c3, c4, c5, c6, c7, c8, c9, c10⟩ := hU1.cells; have z0 := hU1.fz 0; have z1 := hU1.fz 1; have z2 := hU1.fz 2; have z3 := hU1.fz 3; have z4 := hU1.fz 4; have z5 := hU1.fz 5; have z6 := hU1.fz 6; have z7 := hU1.fz 7; have z8 := hU1.fz 8; have z9 := hU1.fz 9; have z10 := hU1.fz 10; obtain ⟨k0, k1, k2, k3, k4, k5, k6⟩ := hK1.cells; have j0 := hK1.fz 0))))
    rw [HOP.out]
    exact bodyPost_ret (v := uV 10 QQ T 0 e 0 0 ⟨#[]⟩) (by simp [results, Tryz.results64, go_sem, c0, c1, c2, c3, c4, c5, c6, c7, c8, c9, c10]) rfl ⟨rfl, (fun hF => ⟨hq.only hF (fun _ h => h.elim), hF⟩) (own_set ((hO2.then ((Only.refl (· = w.heap.size + 1) _).setCell (k := 0) rfl _) (fun i hi => .inr (by omega)))) (Nat.le_refl _) _ _ _ _ _ _ _ _ _ _ _)⟩
  · have HOP : Hid (opo 7 = 0) := Lib.hid (by decide)
    go_enter Tryz.func64, Tryz.ntmps64
    go_wp2_with (go_loud (first | (go_at_call 78; ((with_reducible refine (rClassL_v T 7 W _ (by omega) HC.out hq0).mono ?_); rintro r w1 ⟨rfl, hq1, hO1⟩; have hU1 := hU0.keep hO1; have hK1 := hK0.keep hO1; have hO2 := hOK.trans hO1; obtain ⟨c0, c1, c2, c3, c4, c5, c6, c7, c8, c9, c10⟩ := hU1.cells; have z0 := hU1.fz 0; have z1 := hU1.fz 1; have z2 := hU1.fz 2; have z3 := hU1.fz 3; have z4 := hU1.fz 4; have z5 := hU1.fz 5; have z6 := hU1.fz 6; have z7 := hU1.fz 7; have z8 := hU1.fz 8; have z9 := hU1.fz 9; have z10 := hU1.fz 10; obtain ⟨k0, k1, k2, k3, k4, k5, k6⟩ := hK1.cells; have j0 := hK1.fz 0))))
    rw [HOP.out]
    exact bodyPost_ret (v := uV 0 QQ T 0 e 0 0 ⟨#[]⟩) (by simp [results, Tryz.results64, go_sem, c0, c1, c2, c3, c4, c5, c6, c7, c8, c9, c10]) rfl ⟨rfl, (fun hF => ⟨hq.only hF (fun _ h => h.elim), hF⟩) (own_set (hO2) (Nat.le_refl _) _ _ _ _ _ _ _ _ _ _ _)⟩
end Go.Proofs.YtelichlplblboaaGreatDoor
