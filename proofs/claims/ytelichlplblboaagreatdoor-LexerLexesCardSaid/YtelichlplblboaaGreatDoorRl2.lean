/-
  WALKS. The reference's lexer: step, literal characters.
-/
import Derived.Test.YtelichlplblboaaGreatDoorRl
namespace Go.Proofs.YtelichlplblboaaGreatDoor
open Go.RowKit Go.Maps
/-- A unit's block. -/
def UX (w : World) (g : Nat) (op : Int) (q t : ByteArray) (n e code at' : Int) (nm : ByteArray) : Prop :=
  w.heap[g]? = some (.cells #[.int .i64 op, .string q, .string t, .int .i64 n, .bool false, .int .i64 0, .int .i64 0, .int .i64 e, .int .i64 code, .int .i64 at', .string nm] 49 (0, 0))
abbrev UB (w : World) (g : Nat) : Prop := UX w g 0 ⟨#[]⟩ ⟨#[]⟩ 0 0 0 0 ⟨#[]⟩
abbrev uA (w : World) (op : Int) (q t : ByteArray) (n e code at' : Int) (nm : ByteArray) : World := w.alloc (.cells #[.int .i64 op, .string q, .string t, .int .i64 n, .bool false, .int .i64 0, .int .i64 0, .int .i64 e, .int .i64 code, .int .i64 at', .string nm] 49)
abbrev uZ (w : World) : World := uA w 0 ⟨#[]⟩ ⟨#[]⟩ 0 0 0 0 ⟨#[]⟩
theorem uA_only (w : World) (op : Int) (q t : ByteArray) (n e code at' : Int) (nm : ByteArray) : Only (fun _ => False) w (uA w op q t n e code at' nm) := Only.of_below ((Below.refl _ _).alloc (Nat.le_refl _) _)
theorem uA_size (w : World) (op : Int) (q t : ByteArray) (n e code at' : Int) (nm : ByteArray) : (uA w op q t n e code at' nm).heap.size = w.heap.size + 1 := by show (w.heap.push _).size = _; simp
section
variable {w w' : World} {g : Nat} {op : Int} {q t : ByteArray} {n e code at' : Int} {nm : ByteArray}
theorem UX.new (w : World) (op : Int) (q t : ByteArray) (n e code at' : Int) (nm : ByteArray) : UX (uA w op q t n e code at' nm) w.heap.size op q t n e code at' nm := new_block w _
theorem UX.only {K : Nat → Prop} (h : UX w g op q t n e code at' nm) (ho : Only K w w') (hk : ¬ K g) : UX w' g op q t n e code at' nm := (ho.block g (lt_of_block h) hk).trans h
theorem UX.keep (h : UX w g op q t n e code at' nm) (ho : Only (fun _ => False) w w') : UX w' g op q t n e code at' nm := h.only ho (fun h => h)
theorem UX.cells (h : UX w g op q t n e code at' nm) : w.cell? ⟨g, 0, none⟩ = some (.int .i64 op) ∧ w.cell? ⟨g, 1, none⟩ = some (.string q) ∧ w.cell? ⟨g, 2, none⟩ = some (.string t) ∧ w.cell? ⟨g, 3, none⟩ = some (.int .i64 n) ∧ w.cell? ⟨g, 4, none⟩ = some (.bool false) ∧ w.cell? ⟨g, 5, none⟩ = some (.int .i64 0) ∧ w.cell? ⟨g, 6, none⟩ = some (.int .i64 0) ∧ w.cell? ⟨g, 7, none⟩ = some (.int .i64 e) ∧ w.cell? ⟨g, 8, none⟩ = some (.int .i64 code) ∧ w.cell? ⟨g, 9, none⟩ = some (.int .i64 at') ∧ w.cell? ⟨g, 10, none⟩ = some (.string nm) := by
  have h' := h
  unfold UX at h'
  refine ⟨?_, ?_, ?_, ?_, ?_, ?_, ?_, ?_, ?_, ?_, ?_⟩ <;> simp [World.cell?, h']
theorem UX.fz (h : UX w g op q t n e code at' nm) (k : Nat) : w.frozen? ⟨g, k, none⟩ = false := by have h' := h; unfold UX at h'; simp [World.frozen?, h']
theorem UX.lt (h : UX w g op q t n e code at' nm) : g < w.heap.size := lt_of_block h
end
abbrev set11 (w : World) (g : Nat) (v0 v1 v2 v3 v4 v5 v6 v7 v8 v9 v10 : Value) : World := ((((((((((w.setCell ⟨g, 0, none⟩ v0).setCell ⟨g, 1, none⟩ v1).setCell ⟨g, 2, none⟩ v2).setCell ⟨g, 3, none⟩ v3).setCell ⟨g, 4, none⟩ v4).setCell ⟨g, 5, none⟩ v5).setCell ⟨g, 6, none⟩ v6).setCell ⟨g, 7, none⟩ v7).setCell ⟨g, 8, none⟩ v8).setCell ⟨g, 9, none⟩ v9).setCell ⟨g, 10, none⟩ v10
theorem Only.set11 (w : World) (g : Nat) (v0 v1 v2 v3 v4 v5 v6 v7 v8 v9 v10 : Value) : Only (· = g) w (set11 w g v0 v1 v2 v3 v4 v5 v6 v7 v8 v9 v10) :=
  (((((((((((Only.refl (· = g) w).setCell (k := 0) rfl _).setCell (k := 1) rfl _).setCell (k := 2) rfl _).setCell (k := 3) rfl _).setCell (k := 4) rfl _).setCell (k := 5) rfl _).setCell (k := 6) rfl _).setCell (k := 7) rfl _).setCell (k := 8) rfl _).setCell (k := 9) rfl _).setCell (k := 10) rfl _
/-- Stores into a block of the call's own do not show. -/
theorem own_set {w w1 : World} {g : Nat} (h : Only (fun _ => False) w w1) (hg : w.heap.size ≤ g) (v0 v1 v2 v3 v4 v5 v6 v7 v8 v9 v10 : Value) : Only (fun _ => False) w (set11 w1 g v0 v1 v2 v3 v4 v5 v6 v7 v8 v9 v10) :=
  h.then (Only.set11 w1 g _ _ _ _ _ _ _ _ _ _ _) (fun i hi => .inr (by omega))
/-- Where and how a literal cannot go on. -/
def litA (s : ByteArray) (i0 i : Nat) : Int × Nat := if (decide (i < s.size) && !gd (byteAt s i)) then (5, i) else (7, i0)
theorem litA_F (s : ByteArray) (i0 i : Nat) : litF s i0 i = flt s (litA s i0 i).1 nil8 (litA s i0 i).2 := by
  unfold litF litA; split <;> rfl
theorem litA_ne (s : ByteArray) (i0 i : Nat) : (litA s i0 i).1 ≠ 0 := by unfold litA; split <;> simp
theorem litA_le {s : ByteArray} {i0 : Nat} (h : i0 ≤ s.size) (i : Nat) : (litA s i0 i).2 ≤ s.size := by
  unfold litA; split
  · rename_i h2; simp at h2; exact Nat.le_of_lt h2.1
  · exact h
theorem gd_prn {c : Int} (h : prn c = true) : gd c = true := by unfold gd; rw [h]; simp
theorem litA_prn {s : ByteArray} {i0 i : Nat} (h : prn (byteAt s i) = true) : litA s i0 i = (7, i0) := by
  unfold litA; rw [gd_prn h]; simp
theorem prn_0 : prn 0 = false := by decide
set_option maxRecDepth 100000 in
set_option maxHeartbeats 2000000 in
theorem rstep_ok (s : ByteArray) (fr : Int) (i : Nat) (w : World) (hz : s.size ≤ 1000000) (hp : prn (byteAt s i) = true) :
    Calls Tryz.prog 98 #[.string s, .int .i64 fr, .int .i64 i] w fun e w' => e = .returned (uV 0 ⟨#[]⟩ ⟨#[]⟩ 0 0 0 0 ⟨#[]⟩) ∧ Only (fun _ => False) w w' := by
  have hi : i < s.size := byteAt_pos (by intro h; rw [h, prn_0] at hp; cases hp)
  obtain ⟨y, hy⟩ : ∃ y, byteAt s i = y := ⟨_, rfl⟩
  have hSy : (((s[i]'hi).toNat : Nat) : Int) = y := by rw [← byteAt_lt hi]; exact hy
  rw [hy] at hp
  have HG := Lib.hid (gd_prn hp)
  have hb : 32 ≤ y := by unfold prn at hp; simp at hp; omega
  clear hp hy
  go_enter Tryz.func98, Tryz.ntmps98
  go_wp2_with (first | (go_at_call 95; refine (rl_good _ _).mono ?_; rw [HG.out]; rintro e w' ⟨rfl, rfl⟩))
  exact bodyPost_ret (v := uV 0 ⟨#[]⟩ ⟨#[]⟩ 0 0 0 0 ⟨#[]⟩) (by simp [results, Tryz.results98, go_sem]) rfl ⟨rfl, uA_only w _ _ _ _ _ _ _ _⟩
set_option maxRecDepth 100000 in
set_option maxHeartbeats 2000000 in
theorem rstep_bad (s : ByteArray) (fr i : Nat) (w : World) (hz : s.size ≤ 1000000) (hf : fr ≤ 1000000) (hi2 : i ≤ 2000000) (hp : prn (byteAt s i) = false) :
    Calls Tryz.prog 98 #[.string s, .int .i64 fr, .int .i64 i] w fun e w' => e = .returned (uV 0 ⟨#[]⟩ ⟨#[]⟩ 0 0 (litA s fr i).1 (litA s fr i).2 ⟨#[]⟩) ∧ Only (fun _ => False) w w' := by
  by_cases hi : i < s.size
  · obtain ⟨y, hy⟩ : ∃ y, byteAt s i = y := ⟨_, rfl⟩
    have hSy : (((s[i]'hi).toNat : Nat) : Int) = y := by rw [← byteAt_lt hi]; exact hy
    rw [hy] at hp
    cases hg : gd y
    · have HA : Hid (litA s fr i = (5, i)) := Lib.hid (by unfold litA; rw [hy, hg, decide_eq_true hi]; rfl)
      have HG := Lib.hid hg
      clear hy hp hg
      go_enter Tryz.func98, Tryz.ntmps98
      go_wp2_with (first | (go_at_call 95; refine (rl_good _ _).mono ?_; rw [HG.out]; rintro e w' ⟨rfl, rfl⟩) | (go_at_call 70; ((with_reducible refine (rbad_p _ _ _ _).mono ?_); rintro e w1 ⟨rfl, hO1⟩; have hU1 := (UX.new w 0 ⟨#[]⟩ ⟨#[]⟩ 0 0 0 0 ⟨#[]⟩).keep hO1; obtain ⟨c0, c1, c2, c3, c4, c5, c6, c7, c8, c9, c10⟩ := hU1.cells; have z0 := hU1.fz 0; have z1 := hU1.fz 1; have z2 := hU1.fz 2; have z3 := hU1.fz 3; have z4 := hU1.fz 4; have z5 := hU1.fz 5; have z6 := hU1.fz 6; have z7 := hU1.fz 7; have z8 := hU1.fz 8; have z9 := hU1.fz 9; have z10 := hU1.fz 10)))
      rw [HA.out]
      exact bodyPost_ret (v := uV 0 ⟨#[]⟩ ⟨#[]⟩ 0 0 5 i ⟨#[]⟩) (by simp [results, Tryz.results98, go_sem, c0, c1, c2, c3, c4, c5, c6, c7, c8, c9, c10]) rfl ⟨rfl, own_set ((uA_only w _ _ _ _ _ _ _ _).trans hO1) (Nat.le_refl _) _ _ _ _ _ _ _ _ _ _ _⟩
    · have HA : Hid (litA s fr i = (7, fr)) := Lib.hid (by unfold litA; rw [hy, hg]; simp)
      have HG := Lib.hid hg
      have hb : y < 32 := by unfold gd at hg; rw [hp] at hg; simp at hg; omega
      clear hy hp hg
      go_enter Tryz.func98, Tryz.ntmps98
      go_wp2_with (first | (go_at_call 95; refine (rl_good _ _).mono ?_; rw [HG.out]; rintro e w' ⟨rfl, rfl⟩) | (go_at_call 70; ((with_reducible refine (rbad_p _ _ _ _).mono ?_); rintro e w1 ⟨rfl, hO1⟩; have hU1 := (UX.new w 0 ⟨#[]⟩ ⟨#[]⟩ 0 0 0 0 ⟨#[]⟩).keep hO1; obtain ⟨c0, c1, c2, c3, c4, c5, c6, c7, c8, c9, c10⟩ := hU1.cells; have z0 := hU1.fz 0; have z1 := hU1.fz 1; have z2 := hU1.fz 2; have z3 := hU1.fz 3; have z4 := hU1.fz 4; have z5 := hU1.fz 5; have z6 := hU1.fz 6; have z7 := hU1.fz 7; have z8 := hU1.fz 8; have z9 := hU1.fz 9; have z10 := hU1.fz 10)))
      rw [HA.out]
      exact bodyPost_ret (v := uV 0 ⟨#[]⟩ ⟨#[]⟩ 0 0 7 fr ⟨#[]⟩) (by simp [results, Tryz.results98, go_sem, c0, c1, c2, c3, c4, c5, c6, c7, c8, c9, c10]) rfl ⟨rfl, own_set ((uA_only w _ _ _ _ _ _ _ _).trans hO1) (Nat.le_refl _) _ _ _ _ _ _ _ _ _ _ _⟩
  · have HA : Hid (litA s fr i = (7, fr)) := Lib.hid (by unfold litA; rw [decide_eq_false hi]; rfl)
    have hle : s.size ≤ i := by omega
    clear hp
    go_enter Tryz.func98, Tryz.ntmps98
    go_wp2_with (first | (go_at_call 70; ((with_reducible refine (rbad_p _ _ _ _).mono ?_); rintro e w1 ⟨rfl, hO1⟩; have hU1 := (UX.new w 0 ⟨#[]⟩ ⟨#[]⟩ 0 0 0 0 ⟨#[]⟩).keep hO1; obtain ⟨c0, c1, c2, c3, c4, c5, c6, c7, c8, c9, c10⟩ := hU1.cells; have z0 := hU1.fz 0; have z1 := hU1.fz 1; have z2 := hU1.fz 2; have z3 := hU1.fz 3; have z4 := hU1.fz 4; have z5 := hU1.fz 5; have z6 := hU1.fz 6; have z7 := hU1.fz 7; have z8 := hU1.fz 8; have z9 := hU1.fz 9; have z10 := hU1.fz 10)))
    rw [HA.out]
    exact bodyPost_ret (v := uV 0 ⟨#[]⟩ ⟨#[]⟩ 0 0 7 fr ⟨#[]⟩) (by simp [results, Tryz.results98, go_sem, c0, c1, c2, c3, c4, c5, c6, c7, c8, c9, c10]) rfl ⟨rfl, own_set ((uA_only w _ _ _ _ _ _ _ _).trans hO1) (Nat.le_refl _) _ _ _ _ _ _ _ _ _ _ _⟩
end Go.Proofs.YtelichlplblboaaGreatDoor
