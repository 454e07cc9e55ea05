/-
  WALKS. Lex returns what lexP says.
-/
import Derived.Test.YtakojceggpljoaaGreatDoorLLex
import Derived.Test.YtakojceggpljoaaGreatDoorLSpec3
namespace Go.Proofs.YtakojceggpljoaaGreatDoor
open Go.RowKit Go.Maps
abbrev fltV (f : Flt) : Value := .agg #[.int .i64 f.code, .string f.name, .int .i64 f.line, .int .i64 f.col]
/-- What Lex answers. -/
def LexPost (w : World) (R : LL) (r : Ending) (w' : World) : Prop :=
  match R with
  | .ok l => ∃ tk, r = .returned (.tuple #[tk, fltV F0]) ∧ TR w' w.heap.size tk l ∧ Below w.heap.size w w'
  | .bad f => r = .returned (.tuple #[.slice none 0 0, fltV f]) ∧ Below w.heap.size w w'
/-- A fault's variable that holds nothing yet. -/
def FB (w : World) (g : Nat) : Prop := w.heap[g]? = some (.cells #[.int .i64 0, .string ⟨#[]⟩, .int .i64 0, .int .i64 0] 26 (0, 0))
theorem FB.only {w w' : World} {g : Nat} {K : Nat → Prop} (h : FB w g) (ho : Only K w w') (hk : ¬ K g) : FB w' g := (ho.block g (lt_of_block h) hk).trans h
theorem FB.c0 {w : World} {g : Nat} (h : FB w g) : w.cell? ⟨g, 0, none⟩ = some (.int .i64 0) := by have h' := h; unfold FB at h'; simp [World.cell?, h']
theorem FB.c1 {w : World} {g : Nat} (h : FB w g) : w.cell? ⟨g, 1, none⟩ = some (.string ⟨#[]⟩) := by have h' := h; unfold FB at h'; simp [World.cell?, h']
theorem FB.c2 {w : World} {g : Nat} (h : FB w g) : w.cell? ⟨g, 2, none⟩ = some (.int .i64 0) := by have h' := h; unfold FB at h'; simp [World.cell?, h']
theorem FB.c3 {w : World} {g : Nat} (h : FB w g) : w.cell? ⟨g, 3, none⟩ = some (.int .i64 0) := by have h' := h; unfold FB at h'; simp [World.cell?, h']
theorem FB.fz {w : World} {g : Nat} (h : FB w g) (k : Nat) : w.frozen? ⟨g, k, none⟩ = false := by have h' := h; unfold FB at h'; simp [World.frozen?, h']
theorem TR.base {w : World} {B B' : Nat} {v : Value} {ts : List Tok} (h : TR w B v ts) (hB : B' ≤ B) : TR w B' v ts := by
  obtain ⟨h1, h2⟩ := h
  refine ⟨h1, ?_⟩
  rcases h2 with hn | ⟨g, cap, cur, hv, hb, r⟩
  · exact .inl hn
  · exact .inr ⟨g, cap, cur, hv, by omega, r⟩
theorem Only.set4 (w : World) (g : Nat) (v0 v1 v2 v3 : Value) : Only (· = g) w ((((w.setCell ⟨g, 0, none⟩ v0).setCell ⟨g, 1, none⟩ v1).setCell ⟨g, 2, none⟩ v2).setCell ⟨g, 3, none⟩ v3) :=
  ((((Only.refl (· = g) w).setCell (k := 0) rfl _).setCell (k := 1) rfl _).setCell (k := 2) rfl _).setCell (k := 3) rfl _
set_option maxRecDepth 100000 in
set_option maxHeartbeats 2000000 in
theorem Lex_long (s : ByteArray) (w : World) (hl : 65536 < s.size) :
    Calls Tryz.prog 11 #[.string s] w (LexPost w (.bad ⟨3, nil8, 0, 0⟩)) := by
  go_enter Tryz.func11, Tryz.ntmps11
  go_wp2
  exact bodyPost_ret (v := .tuple #[.slice none 0 0, fltV ⟨3, nil8, 0, 0⟩]) (by simp [results, Tryz.results11, go_sem, nil8]) rfl ⟨rfl, (Below.refl _ _).alloc (Nat.le_refl _) _⟩
theorem scn_new (s : ByteArray) (w : World) : Scn ((w.alloc (.cells #[.int .i64 0, .string ⟨#[]⟩, .int .i64 0, .int .i64 0] 26)).alloc (.cells #[.string s, .int .i64 0, .int .i64 0, .int .i64 0, .int .i64 0, .int .i64 1, .int .i64 1, .slice none 0 0, .int .i64 0, .string ⟨#[]⟩, .int .i64 0, .int .i64 0] 47)) (w.heap.size + 1) s ⟨0, 0, 0⟩ (pos s 0) (.slice none 0 0) F0 := by
  have h := new_block (w.alloc (.cells #[.int .i64 0, .string ⟨#[]⟩, .int .i64 0, .int .i64 0] 26)) (.cells #[.string s, .int .i64 0, .int .i64 0, .int .i64 0, .int .i64 0, .int .i64 1, .int .i64 1, .slice none 0 0, .int .i64 0, .string ⟨#[]⟩, .int .i64 0, .int .i64 0] 47)
  have e : (w.alloc (.cells #[.int .i64 0, .string ⟨#[]⟩, .int .i64 0, .int .i64 0] 26)).heap.size = w.heap.size + 1 := by show (w.heap.push _).size = _; simp
  rw [e] at h
  exact h
theorem fb_new (s : ByteArray) (w : World) : FB ((w.alloc (.cells #[.int .i64 0, .string ⟨#[]⟩, .int .i64 0, .int .i64 0] 26)).alloc (.cells #[.string s, .int .i64 0, .int .i64 0, .int .i64 0, .int .i64 0, .int .i64 1, .int .i64 1, .slice none 0 0, .int .i64 0, .string ⟨#[]⟩, .int .i64 0, .int .i64 0] 47)) w.heap.size := by
  have h := new_block w (.cells #[.int .i64 0, .string ⟨#[]⟩, .int .i64 0, .int .i64 0] 26)
  have e : ((w.alloc (.cells #[.int .i64 0, .string ⟨#[]⟩, .int .i64 0, .int .i64 0] 26)).alloc (.cells #[.string s, .int .i64 0, .int .i64 0, .int .i64 0, .int .i64 0, .int .i64 1, .int .i64 1, .slice none 0 0, .int .i64 0, .string ⟨#[]⟩, .int .i64 0, .int .i64 0] 47)).heap[w.heap.size]? = (w.alloc (.cells #[.int .i64 0, .string ⟨#[]⟩, .int .i64 0, .int .i64 0] 26)).heap[w.heap.size]? := Below.heap_alloc _ _ _ (by show w.heap.size < (w.heap.push _).size; simp)
  exact e.trans h
theorem lex_only (s : ByteArray) (w : World) : Only (fun i => w.heap.size ≤ i) w ((w.alloc (.cells #[.int .i64 0, .string ⟨#[]⟩, .int .i64 0, .int .i64 0] 26)).alloc (.cells #[.string s, .int .i64 0, .int .i64 0, .int .i64 0, .int .i64 0, .int .i64 1, .int .i64 1, .slice none 0 0, .int .i64 0, .string ⟨#[]⟩, .int .i64 0, .int .i64 0] 47)) :=
  (Only.of_below ((Below.refl _ _).alloc (Nat.le_refl _) _)).trans (Only.of_below ((Below.refl _ _).alloc (Nat.le_refl _) _))
set_option maxRecDepth 100000 in
set_option maxHeartbeats 2000000 in
theorem Lex_bad (s : ByteArray) (W w : World) (hQ : Q W w) (hl : s.size ≤ 65536) (f : Flt) (hR : lexF s s.size 0 [] = .bad f) :
    Calls Tryz.prog 11 #[.string s] w (LexPost w (.bad f)) := by
  have hS := scn_new s w
  have hF := fb_new s w
  have hQ1 : Q W ((w.alloc (.cells #[.int .i64 0, .string ⟨#[]⟩, .int .i64 0, .int .i64 0] 26)).alloc (.cells #[.string s, .int .i64 0, .int .i64 0, .int .i64 0, .int .i64 0, .int .i64 1, .int .i64 1, .slice none 0 0, .int .i64 0, .string ⟨#[]⟩, .int .i64 0, .int .i64 0] 47)) := (hQ.below ((Below.refl _ _).alloc (Nat.le_refl _) _)).below ((Below.refl _ _).alloc (Nat.le_refl _) _)
  have hwz := hQ.bel.size
  have hc := (lexF_is _ hR).code
  have ec : (f.code == 0) = false := by simp [hc]
  have HR := Lib.hid hR
  clear hR hc
  have hle : decide (65536 < (s.size : Int)) = false := by simp; omega
  go_enter Tryz.func11, Tryz.ntmps11
  go_wp2_with (first | (go_at_call 23; refine (scan_p hQ1 (by omega) hS hl).mono ?_; rw [HR.out]; rintro r w2 ⟨rfl, hQ2, hO2, i0, tk, j, hS2⟩; have f8 := hS2.f8; have f9 := hS2.f9; have f10 := hS2.f10; have f11 := hS2.f11; have hF2 := hF.only hO2 (by omega); have d0 := hF2.c0; have d1 := hF2.c1; have d2 := hF2.c2; have d3 := hF2.c3; have z0 := hF2.fz 0; have z1 := hF2.fz 1; have z2 := hF2.fz 2; have z3 := hF2.fz 3))
  go_region
  all_goals
    go_wp2
    exact bodyPost_ret (v := .tuple #[.slice none 0 0, fltV f]) (by simp [results, Tryz.results11, go_sem, d0, d1, d2, d3]) rfl ⟨rfl, (((lex_only s w).trans (hO2.wide (K' := fun i => w.heap.size ≤ i) (fun i hi => by omega))).trans ((Only.set4 _ _ _ _ _ _).wide (K' := fun i => w.heap.size ≤ i) (fun i hi => by omega))).drew.below (Nat.le_refl _) (fun i hi => hi)⟩
set_option maxRecDepth 100000 in
set_option maxHeartbeats 2000000 in
theorem Lex_ok (s : ByteArray) (W w : World) (hQ : Q W w) (hl : s.size ≤ 65536) (l : List Tok) (hR : lexF s s.size 0 [] = .ok l) :
    Calls Tryz.prog 11 #[.string s] w (LexPost w (.ok l)) := by
  have hS := scn_new s w
  have hF := fb_new s w
  have hQ1 : Q W ((w.alloc (.cells #[.int .i64 0, .string ⟨#[]⟩, .int .i64 0, .int .i64 0] 26)).alloc (.cells #[.string s, .int .i64 0, .int .i64 0, .int .i64 0, .int .i64 0, .int .i64 1, .int .i64 1, .slice none 0 0, .int .i64 0, .string ⟨#[]⟩, .int .i64 0, .int .i64 0] 47)) := (hQ.below ((Below.refl _ _).alloc (Nat.le_refl _) _)).below ((Below.refl _ _).alloc (Nat.le_refl _) _)
  have hwz := hQ.bel.size
  have HR := Lib.hid hR
  clear hR
  have hle : decide (65536 < (s.size : Int)) = false := by simp; omega
  go_enter Tryz.func11, Tryz.ntmps11
  go_wp2_with (first | (go_at_call 23; refine (scan_p hQ1 (by omega) hS hl).mono ?_; rw [HR.out]; rintro r w2 ⟨rfl, hQ2, hO2, i0, j, tk, hS2, hT2⟩; have f7 := hS2.toks; have f8 := hS2.f8; have f9 := hS2.f9; have f10 := hS2.f10; have f11 := hS2.f11; have hF2 := hF.only hO2 (by omega); have d0 := hF2.c0; have d1 := hF2.c1; have d2 := hF2.c2; have d3 := hF2.c3; have z0 := hF2.fz 0; have z1 := hF2.fz 1; have z2 := hF2.fz 2; have z3 := hF2.fz 3))
  have hz2 : w.heap.size + 1 ≤ ((w.alloc (.cells #[.int .i64 0, .string ⟨#[]⟩, .int .i64 0, .int .i64 0] 26)).alloc (.cells #[.string s, .int .i64 0, .int .i64 0, .int .i64 0, .int .i64 0, .int .i64 1, .int .i64 1, .slice none 0 0, .int .i64 0, .string ⟨#[]⟩, .int .i64 0, .int .i64 0] 47)).heap.size := by show _ ≤ ((w.heap.push _).push _).size; simp
  refine bodyPost_ret (v := .tuple #[tk, fltV F0]) (by simp [results, Tryz.results11, go_sem, d0, d1, d2, d3]) rfl ⟨tk, rfl, (hT2.only (Only.set4 _ _ _ _ _ _) (fun i hi => by omega)).base (by omega), (((lex_only s w).trans (hO2.wide (K' := fun i => w.heap.size ≤ i) (fun i hi => by omega))).trans ((Only.set4 _ _ _ _ _ _).wide (K' := fun i => w.heap.size ≤ i) (fun i hi => by omega))).below (Nat.le_refl _) (fun i hi => hi)⟩
/-- Lex, at every source. -/
theorem Lex_p (s : ByteArray) (W w : World) (hQ : Q W w) : Calls Tryz.prog 11 #[.string s] w (LexPost w (lexP s)) := by
  unfold lexP
  by_cases hl : 65536 < s.size
  · rw [if_pos hl]; exact Lex_long s w hl
  · rw [if_neg hl]
    cases hR : lexF s s.size 0 [] with
    | ok l => exact Lex_ok s W w hQ (by omega) l hR
    | bad f => exact Lex_bad s W w hQ (by omega) f hR
end Go.Proofs.YtakojceggpljoaaGreatDoor
