/-
  WALKS. The scanner's main method, label by label.
-/
import Derived.Test.YtakojceggpljoaaGreatDoorLScn
namespace Go.Proofs.YtakojceggpljoaaGreatDoor
open Go.RowKit Go.Maps
section
variable {W w0 w : World} {b g : Nat} {s : ByteArray} {R : LL} {n : Nat} {a : Act}
theorem JJ.to0 {k i : Nat} {B0 : At} {tk : Value} {ts : List Tok} {t : Tk} (hfr : a = fr b g (a.tmps.getD 3 undef) (fun j => a.tmps.getD j undef)) (hn : n = 4 * k + 3) (HI : Hid (lexF s k i ts = R)) (h1 : s.size ≤ i + k) (h2 : i ≤ s.size) (hS : Scn w b s B0 (pos s i) tk F0) (hC : Com W w0 b g s tk ts t w) : JJ W w0 b g s R n 0 a w :=
  ⟨_, _, k, i, B0, tk, ts, t, hfr, hn, HI, h1, h2, hS, hC⟩
theorem JJ.to9t {k i : Nat} {B0 : At} {tk : Value} {ts : List Tok} {t : Tk} (hfr : a = fr b g (.bool true) (fun j => a.tmps.getD j undef)) (hn : n = 4 * k + 4) (HI : Hid (lexF s k i ts = R)) (h1 : s.size ≤ i + k) (h2 : i ≤ s.size) (hS : Scn w b s B0 (pos s i) tk F0) (hC : Com W w0 b g s tk ts t w) : JJ W w0 b g s R n 9 a w :=
  ⟨_, k, hn, .inl ⟨hfr, i, B0, tk, ts, t, HI, h1, h2, hS, hC⟩⟩
theorem JJ.to9f {k : Nat} (hfr : a = fr b g (.bool false) (fun j => a.tmps.getD j undef)) (hn : n = 4 * k + 4) (hF : Fin W w0 b g s R w) : JJ W w0 b g s R n 9 a w :=
  ⟨_, k, hn, .inr ⟨hfr, hF⟩⟩
theorem JJ.to10t {k i e : Nat} {tk : Value} {ts : List Tok} {t : Tk} (hfr : a = fr b g (.bool true) (fun j => a.tmps.getD j undef)) (hn : n = 4 * k + 5) (HI : Hid (stepR s k i ts (.tok t e) = R)) (h1 : s.size ≤ e + k) (h2 : e ≤ s.size) (h3 : i ≤ s.size) (hS : Scn w b s (pos s i) (pos s e) tk F0) (hC : Com W w0 b g s tk ts t w) : JJ W w0 b g s R n 10 a w :=
  ⟨_, k, hn, .inl ⟨hfr, i, e, tk, ts, t, HI, h1, h2, h3, hS, hC⟩⟩
theorem JJ.to10f {k : Nat} (hfr : a = fr b g (.bool false) (fun j => a.tmps.getD j undef)) (hn : n = 4 * k + 5) (hF : Fin W w0 b g s R w) : JJ W w0 b g s R n 10 a w :=
  ⟨_, k, hn, .inr ⟨hfr, hF⟩⟩
theorem JJ.toU {l k i : Nat} {tk : Value} {ts : List Tok} {t : Tk} {x : UU} (hl : 1 ≤ l ∧ l ≤ 8) (hfr : a = fr b g (a.tmps.getD 3 undef) (fun j => a.tmps.getD j undef)) (hn : n = 4 * k + 6) (hu : UL s i l x) (hx : unit s i = x) (HI : Hid (stepR s k i ts x = R)) (h1 : s.size ≤ i + (k + 1)) (h2 : i < s.size) (hS : Scn w b s (pos s i) (pos s i) tk F0) (hC : Com W w0 b g s tk ts t w) : JJ W w0 b g s R n l a w := by
  obtain ⟨p, q⟩ := hl
  have : l = 1 ∨ l = 2 ∨ l = 3 ∨ l = 4 ∨ l = 5 ∨ l = 6 ∨ l = 7 ∨ l = 8 := by omega
  rcases this with rfl | rfl | rfl | rfl | rfl | rfl | rfl | rfl <;> exact ⟨_, _, k, i, tk, ts, t, x, hfr, hn, hu, hx, HI, h1, h2, hS, hC⟩
theorem Com.put {tk : Value} {ts : List Tok} {t v : Tk} (h : Com W w0 b g s tk ts t w) : Com W w0 b g s tk ts v (((((((w.setCell ⟨g, 0, none⟩ (.int .i64 v.op)).setCell ⟨g, 1, none⟩ (.string v.qual)).setCell ⟨g, 2, none⟩ (.string v.text)).setCell ⟨g, 3, none⟩ (.int .i64 v.n)).setCell ⟨g, 4, none⟩ (.bool false)).setCell ⟨g, 5, none⟩ (.int .i64 0)).setCell ⟨g, 6, none⟩ (.int .i64 0)) := by
  have hO := Only.set7 w g (.int .i64 v.op) (.string v.qual) (.string v.text) (.int .i64 v.n) (.bool false) (.int .i64 0) (.int .i64 0)
  exact ⟨h.q.only hO (fun i hi => by rw [hi]; have := h.wb; have := h.bg; omega), h.wb, h.bg, h.eg, Nat.lt_of_lt_of_le h.zg hO.size, h.tr.only hO (fun i hi => by rw [hi]; omega), h.tv.set v, h.tl, h.on.then hO (fun i hi => .inr (by have := h.eg; omega))⟩
theorem Scn.far {B H : At} {tk : Value} {F : Flt} (h : Scn w b s B H tk F) (hne : b ≠ g) (v0 v1 v2 v3 v4 v5 v6 : Value) : Scn (((((((w.setCell ⟨g, 0, none⟩ v0).setCell ⟨g, 1, none⟩ v1).setCell ⟨g, 2, none⟩ v2).setCell ⟨g, 3, none⟩ v3).setCell ⟨g, 4, none⟩ v4).setCell ⟨g, 5, none⟩ v5).setCell ⟨g, 6, none⟩ v6) b s B H tk F :=
  h.only (Only.set7 w g v0 v1 v2 v3 v4 v5 v6) hne
theorem Com.app {tk tk' : Value} {ts : List Tok} {t : Tk} {x : Tok} {w' : World} (h : Com W w0 b g s tk ts t w) (hT : TR w' (g + 1) tk' (ts ++ [x])) (hO : Only (fun k => k = b ∨ g + 1 ≤ k) w w') (hl : ts.length < 16384) : Com W w0 b g s tk' (ts ++ [x]) t w' :=
  ⟨h.q.only hO (fun i hi => by have := h.wb; have := h.bg; omega), h.wb, h.bg, h.eg, Nat.lt_of_lt_of_le h.zg hO.size, hT, h.tv.only hO (by have := h.bg; omega), by rw [List.length_append]; simp; omega, h.on.then hO (fun i hi => by have := h.eg; omega)⟩
set_option maxRecDepth 100000 in
set_option maxHeartbeats 2000000 in
theorem pass9 (hJ : JJ W w0 b g s R n 9 a w) : (restAt Tryz.f23.body 9).wp Tryz.prog (jumps (fun l' a' w' => ∃ n', n' < n ∧ JJ W w0 b g s R n' l' a' w') (ScQ W w0 b g s R)) a w := by
  obtain ⟨u, k, rfl, h⟩ := hJ
  rcases h with ⟨rfl, i, B0, tk, ts, t, HI, h1, h2, hS, hC⟩ | ⟨rfl, hF⟩
  · unfold fr
    conv => arg 2; whnf
    go_wp2
    go_step3
    exact ⟨4 * k + 3, by omega, JJ.to0 rfl rfl HI h1 h2 hS hC⟩
  · unfold fr
    conv => arg 2; whnf
    go_wp2
    exact ⟨rfl, hF⟩
set_option maxRecDepth 100000 in
set_option maxHeartbeats 2000000 in
theorem pass10 (hz : s.size ≤ 65536) (hJ : JJ W w0 b g s R n 10 a w) : (restAt Tryz.f23.body 10).wp Tryz.prog (jumps (fun l' a' w' => ∃ n', n' < n ∧ JJ W w0 b g s R n' l' a' w') (ScQ W w0 b g s R)) a w := by
  obtain ⟨u, k, rfl, h⟩ := hJ
  rcases h with ⟨rfl, i, e, tk, ts, t, HI, h1, h2, h3, hS, hC⟩ | ⟨rfl, hF⟩
  · have hbg := hC.bg
    by_cases hfull : ts.length = 16384
    · have HR : Hid (R = .bad (flt s 3 nil8 i)) := Lib.hid (by rw [← HI.out]; unfold stepR; simp only [hfull, if_true])
      unfold fr
      conv => arg 2; whnf
      have d0 := hC.tv.c0
      have d1 := hC.tv.c1
      have d2 := hC.tv.c2
      have d3 := hC.tv.c3
      have d4 := hC.tv.c4
      have d5 := hC.tv.c5
      have d6 := hC.tv.c6
      go_wp2_with (first | (go_at_call 55; refine (accept_full hS t hC.tr hfull).mono ?_; rintro r w7 ⟨rfl, hB7, hO7⟩))
      go_step3
      go_wp2
      exact ⟨rfl, by rw [HR.out]; exact (hC.only hO7).bad hB7⟩
    · have HR : Hid (lexF s k e (ts ++ [t.at' (pos s i)]) = R) := Lib.hid (by rw [← HI.out]; unfold stepR; simp only [hfull, if_false])
      have hfull : ts.length < 16384 := by have := hC.tl; omega
      unfold fr
      conv => arg 2; whnf
      have d0 := hC.tv.c0
      have d1 := hC.tv.c1
      have d2 := hC.tv.c2
      have d3 := hC.tv.c3
      have d4 := hC.tv.c4
      have d5 := hC.tv.c5
      have d6 := hC.tv.c6
      go_wp2_with (first | (go_at_call 55; refine (accept_p hS t (B := g + 1) (by have := hC.bg; omega) hC.zg (by omega) hC.tr hfull).mono ?_; rintro r w7 ⟨rfl, tk7, hS7, hT7, hO7⟩))
      go_step3
      go_wp2
      go_step3
      exact ⟨4 * k + 3, by omega, JJ.to0 rfl rfl HR h1 h2 hS7 (hC.app hT7 hO7 hfull)⟩
  · unfold fr
    conv => arg 2; whnf
    go_wp2
    go_step3
    go_wp2
    exact ⟨rfl, hF⟩
set_option maxRecDepth 100000 in
set_option maxHeartbeats 2000000 in
theorem pass1 (hz : s.size ≤ 65536) (hJ : JJ W w0 b g s R n 1 a w) : (restAt Tryz.f23.body 1).wp Tryz.prog (jumps (fun l' a' w' => ∃ n', n' < n ∧ JJ W w0 b g s R n' l' a' w') (ScQ W w0 b g s R)) a w := by
  obtain ⟨u, ok, k, i, tk, ts, t, x, rfl, rfl, hU, hx, HI, h1, h2, hS, hC⟩ := hJ
  obtain rfl : x = (comR s i).v := hU
  have hue := (unit_end h2).1
  rw [hx] at hue
  cases hr : comR s i with
  | ok y e =>
    rw [hr] at HI hue
    have hu := hue e rfl
    have HR := Lib.hid hr
    clear hue hr hx
    unfold fr
    conv => arg 2; whnf
    go_wp2_with (first | (go_at_call 47; refine (comment_p hS hz (Nat.le_of_lt h2)).mono ?_; rw [HR.out]; rintro r w7 ⟨rfl, hS7, hO7⟩))
    go_step3
    exact ⟨4 * k + 4, by omega, JJ.to9t rfl rfl HI (by omega) hu.2 hS7 (hC.only hO7)⟩
  | bad f =>
    rw [hr] at HI
    have HR := Lib.hid hr
    clear hue hr hx
    unfold fr
    conv => arg 2; whnf
    go_wp2_with (first | (go_at_call 47; refine (comment_p hS hz (Nat.le_of_lt h2)).mono ?_; rw [HR.out]; rintro r w7 ⟨rfl, hB7, hO7⟩))
    go_step3
    exact ⟨4 * k + 4, by omega, JJ.to9f rfl rfl (by rw [← HI.out]; exact (hC.only hO7).bad hB7)⟩
set_option maxRecDepth 100000 in
set_option maxHeartbeats 2000000 in
theorem pass2 (hz : s.size ≤ 65536) (hJ : JJ W w0 b g s R n 2 a w) : (restAt Tryz.f23.body 2).wp Tryz.prog (jumps (fun l' a' w' => ∃ n', n' < n ∧ JJ W w0 b g s R n' l' a' w') (ScQ W w0 b g s R)) a w := by
  obtain ⟨u, ok, k, i, tk, ts, t, x, rfl, rfl, hU, hx, HI, h1, h2, hS, hC⟩ := hJ
  obtain rfl : x = (linR s i).v := hU.1
  have hue := (unit_end h2).1
  rw [hx] at hue
  cases hr : linR s i with
  | ok y e =>
    rw [hr] at HI hue
    have hu := hue e rfl
    have HR := Lib.hid hr
    clear hue hr hx hU
    unfold fr
    conv => arg 2; whnf
    go_wp2_with (first | (go_at_call 48; refine (line_p hS hz (Nat.le_of_lt h2)).mono ?_; rw [HR.out]; rintro r w7 ⟨rfl, hS7, hO7⟩))
    go_step3
    exact ⟨4 * k + 4, by omega, JJ.to9t rfl rfl HI (by omega) hu.2 hS7 (hC.only hO7)⟩
  | bad f =>
    rw [hr] at HI
    have HR := Lib.hid hr
    clear hue hr hx hU
    unfold fr
    conv => arg 2; whnf
    go_wp2_with (first | (go_at_call 48; refine (line_p hS hz (Nat.le_of_lt h2)).mono ?_; rw [HR.out]; rintro r w7 ⟨rfl, hB7, hO7⟩))
    go_step3
    exact ⟨4 * k + 4, by omega, JJ.to9f rfl rfl (by rw [← HI.out]; exact (hC.only hO7).bad hB7)⟩
set_option maxRecDepth 100000 in
set_option maxHeartbeats 2000000 in
theorem pass3 (hz : s.size ≤ 65536) (hJ : JJ W w0 b g s R n 3 a w) : (restAt Tryz.f23.body 3).wp Tryz.prog (jumps (fun l' a' w' => ∃ n', n' < n ∧ JJ W w0 b g s R n' l' a' w') (ScQ W w0 b g s R)) a w := by
  obtain ⟨u, ok, k, i, tk, ts, t, x, rfl, rfl, hU, hx, HI, h1, h2, hS, hC⟩ := hJ
  obtain rfl : x = (idR s i).u := hU.1
  have hst := hU.2
  have hue := (unit_end h2).2
  rw [hx] at hue
  have hbg := hC.bg
  cases hr : idR s i with
  | ok y e =>
    rw [hr] at HI hue
    have hu := hue y e rfl
    have HR := Lib.hid hr
    clear hue hr hx hU
    unfold fr
    conv => arg 2; whnf
    go_wp2_with (first | (go_at_call 49; refine (identifier_p hC.q hC.wb hS hz hst).mono ?_; rw [HR.out]; rintro r w7 ⟨rfl, hS7, hO7⟩; have hC7 := hC.only hO7; have d0 := hC7.tv.c0; have d1 := hC7.tv.c1; have d2 := hC7.tv.c2; have d3 := hC7.tv.c3; have d4 := hC7.tv.c4; have d5 := hC7.tv.c5; have d6 := hC7.tv.c6; have z0 := hC7.tv.fz 0; have z1 := hC7.tv.fz 1; have z2 := hC7.tv.fz 2; have z3 := hC7.tv.fz 3; have z4 := hC7.tv.fz 4; have z5 := hC7.tv.fz 5; have z6 := hC7.tv.fz 6))
    go_step3
    exact ⟨4 * k + 5, by omega, JJ.to10t rfl rfl HI (by omega) hu.2 (Nat.le_of_lt h2) (hS7.far (by omega) _ _ _ _ _ _ _) hC7.put⟩
  | bad f =>
    rw [hr] at HI
    have HR := Lib.hid hr
    clear hue hr hx hU
    unfold fr
    conv => arg 2; whnf
    go_wp2_with (first | (go_at_call 49; refine (identifier_p hC.q hC.wb hS hz hst).mono ?_; rw [HR.out]; rintro r w7 ⟨rfl, hB7, hO7⟩; have hC7 := hC.only hO7; have d0 := hC7.tv.c0; have d1 := hC7.tv.c1; have d2 := hC7.tv.c2; have d3 := hC7.tv.c3; have d4 := hC7.tv.c4; have d5 := hC7.tv.c5; have d6 := hC7.tv.c6; have z0 := hC7.tv.fz 0; have z1 := hC7.tv.fz 1; have z2 := hC7.tv.fz 2; have z3 := hC7.tv.fz 3; have z4 := hC7.tv.fz 4; have z5 := hC7.tv.fz 5; have z6 := hC7.tv.fz 6))
    go_step3
    exact ⟨4 * k + 5, by omega, JJ.to10f rfl rfl (by rw [← HI.out]; exact (hC7.put (v := ⟨0, ⟨#[]⟩, ⟨#[]⟩, 0⟩)).bad (hB7.only (Only.set7 _ _ _ _ _ _ _ _ _) (by omega)))⟩
set_option maxRecDepth 100000 in
set_option maxHeartbeats 2000000 in
theorem pass4 (hz : s.size ≤ 65536) (hJ : JJ W w0 b g s R n 4 a w) : (restAt Tryz.f23.body 4).wp Tryz.prog (jumps (fun l' a' w' => ∃ n', n' < n ∧ JJ W w0 b g s R n' l' a' w') (ScQ W w0 b g s R)) a w := by
  obtain ⟨u, ok, k, i, tk, ts, t, x, rfl, rfl, hU, hx, HI, h1, h2, hS, hC⟩ := hJ
  obtain rfl : x = (nmR s i nil8 i).u := hU.1
  have hue := (unit_end h2).2
  rw [hx] at hue
  have hbg := hC.bg
  have c4 := hS.hat_p
  cases hr : nmR s i nil8 i with
  | ok y e =>
    rw [hr] at HI hue
    have hu := hue y e rfl
    have HR := Lib.hid (show nmR s i ⟨#[]⟩ i = _ from hr)
    clear hue hr hx hU
    unfold fr
    conv => arg 2; whnf
    go_wp2_with (first | (go_at_call 50; refine (name_p hC.q hC.wb hS _ i hz (Nat.le_refl i) (Nat.le_of_lt h2)).mono ?_; rw [HR.out]; rintro r w7 ⟨rfl, hS7, hO7⟩; have hC7 := hC.only hO7; have d0 := hC7.tv.c0; have d1 := hC7.tv.c1; have d2 := hC7.tv.c2; have d3 := hC7.tv.c3; have d4 := hC7.tv.c4; have d5 := hC7.tv.c5; have d6 := hC7.tv.c6; have z0 := hC7.tv.fz 0; have z1 := hC7.tv.fz 1; have z2 := hC7.tv.fz 2; have z3 := hC7.tv.fz 3; have z4 := hC7.tv.fz 4; have z5 := hC7.tv.fz 5; have z6 := hC7.tv.fz 6))
    go_step3
    exact ⟨4 * k + 5, by omega, JJ.to10t rfl rfl HI (by omega) hu.2 (Nat.le_of_lt h2) (hS7.far (by omega) _ _ _ _ _ _ _) hC7.put⟩
  | bad f =>
    rw [hr] at HI
    have HR := Lib.hid (show nmR s i ⟨#[]⟩ i = _ from hr)
    clear hue hr hx hU
    unfold fr
    conv => arg 2; whnf
    go_wp2_with (first | (go_at_call 50; refine (name_p hC.q hC.wb hS _ i hz (Nat.le_refl i) (Nat.le_of_lt h2)).mono ?_; rw [HR.out]; rintro r w7 ⟨rfl, hB7, hO7⟩; have hC7 := hC.only hO7; have d0 := hC7.tv.c0; have d1 := hC7.tv.c1; have d2 := hC7.tv.c2; have d3 := hC7.tv.c3; have d4 := hC7.tv.c4; have d5 := hC7.tv.c5; have d6 := hC7.tv.c6; have z0 := hC7.tv.fz 0; have z1 := hC7.tv.fz 1; have z2 := hC7.tv.fz 2; have z3 := hC7.tv.fz 3; have z4 := hC7.tv.fz 4; have z5 := hC7.tv.fz 5; have z6 := hC7.tv.fz 6))
    go_step3
    exact ⟨4 * k + 5, by omega, JJ.to10f rfl rfl (by rw [← HI.out]; exact (hC7.put (v := ⟨0, ⟨#[]⟩, ⟨#[]⟩, 0⟩)).bad (hB7.only (Only.set7 _ _ _ _ _ _ _ _ _) (by omega)))⟩
set_option maxRecDepth 100000 in
set_option maxHeartbeats 2000000 in
theorem pass5 (hz : s.size ≤ 65536) (hJ : JJ W w0 b g s R n 5 a w) : (restAt Tryz.f23.body 5).wp Tryz.prog (jumps (fun l' a' w' => ∃ n', n' < n ∧ JJ W w0 b g s R n' l' a' w') (ScQ W w0 b g s R)) a w := by
  obtain ⟨u, ok, k, i, tk, ts, t, x, rfl, rfl, hU, hx, HI, h1, h2, hS, hC⟩ := hJ
  obtain rfl : x = (intR s i).u := hU.1
  have hue := (unit_end h2).2
  rw [hx] at hue
  have hbg := hC.bg
  cases hr : intR s i with
  | ok y e =>
    rw [hr] at HI hue
    have hu := hue y e rfl
    have HR := Lib.hid hr
    clear hue hr hx hU
    unfold fr
    conv => arg 2; whnf
    go_wp2_with (first | (go_at_call 51; refine (integer_p hS hz (Nat.le_of_lt h2)).mono ?_; rw [HR.out]; rintro r w7 ⟨rfl, hS7, hO7⟩; have hC7 := hC.only hO7; have d0 := hC7.tv.c0; have d1 := hC7.tv.c1; have d2 := hC7.tv.c2; have d3 := hC7.tv.c3; have d4 := hC7.tv.c4; have d5 := hC7.tv.c5; have d6 := hC7.tv.c6; have z0 := hC7.tv.fz 0; have z1 := hC7.tv.fz 1; have z2 := hC7.tv.fz 2; have z3 := hC7.tv.fz 3; have z4 := hC7.tv.fz 4; have z5 := hC7.tv.fz 5; have z6 := hC7.tv.fz 6))
    go_step3
    exact ⟨4 * k + 5, by omega, JJ.to10t rfl rfl HI (by omega) hu.2 (Nat.le_of_lt h2) (hS7.far (by omega) _ _ _ _ _ _ _) hC7.put⟩
  | bad f =>
    rw [hr] at HI
    have HR := Lib.hid hr
    clear hue hr hx hU
    unfold fr
    conv => arg 2; whnf
    go_wp2_with (first | (go_at_call 51; refine (integer_p hS hz (Nat.le_of_lt h2)).mono ?_; rw [HR.out]; rintro r w7 ⟨rfl, hB7, hO7⟩; have hC7 := hC.only hO7; have d0 := hC7.tv.c0; have d1 := hC7.tv.c1; have d2 := hC7.tv.c2; have d3 := hC7.tv.c3; have d4 := hC7.tv.c4; have d5 := hC7.tv.c5; have d6 := hC7.tv.c6; have z0 := hC7.tv.fz 0; have z1 := hC7.tv.fz 1; have z2 := hC7.tv.fz 2; have z3 := hC7.tv.fz 3; have z4 := hC7.tv.fz 4; have z5 := hC7.tv.fz 5; have z6 := hC7.tv.fz 6))
    go_step3
    exact ⟨4 * k + 5, by omega, JJ.to10f rfl rfl (by rw [← HI.out]; exact (hC7.put (v := ⟨0, ⟨#[]⟩, ⟨#[]⟩, 0⟩)).bad (hB7.only (Only.set7 _ _ _ _ _ _ _ _ _) (by omega)))⟩
set_option maxRecDepth 100000 in
set_option maxHeartbeats 2000000 in
theorem pass6 (hz : s.size ≤ 65536) (hJ : JJ W w0 b g s R n 6 a w) : (restAt Tryz.f23.body 6).wp Tryz.prog (jumps (fun l' a' w' => ∃ n', n' < n ∧ JJ W w0 b g s R n' l' a' w') (ScQ W w0 b g s R)) a w := by
  obtain ⟨u, ok, k, i, tk, ts, t, x, rfl, rfl, hU, hx, HI, h1, h2, hS, hC⟩ := hJ
  obtain rfl : x = (chrR s i).u := hU
  have hue := (unit_end h2).2
  rw [hx] at hue
  have hbg := hC.bg
  cases hr : chrR s i with
  | ok y e =>
    rw [hr] at HI hue
    have hu := hue y e rfl
    have HR := Lib.hid hr
    clear hue hr hx
    unfold fr
    conv => arg 2; whnf
    go_wp2_with (first | (go_at_call 52; refine (character_p hS hz h2).mono ?_; rw [HR.out]; rintro r w7 ⟨rfl, hS7, hO7⟩; have hC7 := hC.only hO7; have d0 := hC7.tv.c0; have d1 := hC7.tv.c1; have d2 := hC7.tv.c2; have d3 := hC7.tv.c3; have d4 := hC7.tv.c4; have d5 := hC7.tv.c5; have d6 := hC7.tv.c6; have z0 := hC7.tv.fz 0; have z1 := hC7.tv.fz 1; have z2 := hC7.tv.fz 2; have z3 := hC7.tv.fz 3; have z4 := hC7.tv.fz 4; have z5 := hC7.tv.fz 5; have z6 := hC7.tv.fz 6))
    go_step3
    exact ⟨4 * k + 5, by omega, JJ.to10t rfl rfl HI (by omega) hu.2 (Nat.le_of_lt h2) (hS7.far (by omega) _ _ _ _ _ _ _) hC7.put⟩
  | bad f =>
    rw [hr] at HI
    have HR := Lib.hid hr
    clear hue hr hx
    unfold fr
    conv => arg 2; whnf
    go_wp2_with (first | (go_at_call 52; refine (character_p hS hz h2).mono ?_; rw [HR.out]; rintro r w7 ⟨rfl, hB7, hO7⟩; have hC7 := hC.only hO7; have d0 := hC7.tv.c0; have d1 := hC7.tv.c1; have d2 := hC7.tv.c2; have d3 := hC7.tv.c3; have d4 := hC7.tv.c4; have d5 := hC7.tv.c5; have d6 := hC7.tv.c6; have z0 := hC7.tv.fz 0; have z1 := hC7.tv.fz 1; have z2 := hC7.tv.fz 2; have z3 := hC7.tv.fz 3; have z4 := hC7.tv.fz 4; have z5 := hC7.tv.fz 5; have z6 := hC7.tv.fz 6))
    go_step3
    exact ⟨4 * k + 5, by omega, JJ.to10f rfl rfl (by rw [← HI.out]; exact (hC7.put (v := ⟨0, ⟨#[]⟩, ⟨#[]⟩, 0⟩)).bad (hB7.only (Only.set7 _ _ _ _ _ _ _ _ _) (by omega)))⟩
set_option maxRecDepth 100000 in
set_option maxHeartbeats 2000000 in
theorem pass7 (hz : s.size ≤ 65536) (hJ : JJ W w0 b g s R n 7 a w) : (restAt Tryz.f23.body 7).wp Tryz.prog (jumps (fun l' a' w' => ∃ n', n' < n ∧ JJ W w0 b g s R n' l' a' w') (ScQ W w0 b g s R)) a w := by
  obtain ⟨u, ok, k, i, tk, ts, t, x, rfl, rfl, hU, hx, HI, h1, h2, hS, hC⟩ := hJ
  obtain rfl : x = (txtR s i).u := hU
  have hue := (unit_end h2).2
  rw [hx] at hue
  have hbg := hC.bg
  cases hr : txtR s i with
  | ok y e =>
    rw [hr] at HI hue
    have hu := hue y e rfl
    have HR := Lib.hid hr
    clear hue hr hx
    unfold fr
    conv => arg 2; whnf
    go_wp2_with (first | (go_at_call 53; refine (text_p hS hz h2).mono ?_; rw [HR.out]; rintro r w7 ⟨rfl, hS7, hO7⟩; have hC7 := hC.only hO7; have d0 := hC7.tv.c0; have d1 := hC7.tv.c1; have d2 := hC7.tv.c2; have d3 := hC7.tv.c3; have d4 := hC7.tv.c4; have d5 := hC7.tv.c5; have d6 := hC7.tv.c6; have z0 := hC7.tv.fz 0; have z1 := hC7.tv.fz 1; have z2 := hC7.tv.fz 2; have z3 := hC7.tv.fz 3; have z4 := hC7.tv.fz 4; have z5 := hC7.tv.fz 5; have z6 := hC7.tv.fz 6))
    go_step3
    exact ⟨4 * k + 5, by omega, JJ.to10t rfl rfl HI (by omega) hu.2 (Nat.le_of_lt h2) (hS7.far (by omega) _ _ _ _ _ _ _) hC7.put⟩
  | bad f =>
    rw [hr] at HI
    have HR := Lib.hid hr
    clear hue hr hx
    unfold fr
    conv => arg 2; whnf
    go_wp2_with (first | (go_at_call 53; refine (text_p hS hz h2).mono ?_; rw [HR.out]; rintro r w7 ⟨rfl, hB7, hO7⟩; have hC7 := hC.only hO7; have d0 := hC7.tv.c0; have d1 := hC7.tv.c1; have d2 := hC7.tv.c2; have d3 := hC7.tv.c3; have d4 := hC7.tv.c4; have d5 := hC7.tv.c5; have d6 := hC7.tv.c6; have z0 := hC7.tv.fz 0; have z1 := hC7.tv.fz 1; have z2 := hC7.tv.fz 2; have z3 := hC7.tv.fz 3; have z4 := hC7.tv.fz 4; have z5 := hC7.tv.fz 5; have z6 := hC7.tv.fz 6))
    go_step3
    exact ⟨4 * k + 5, by omega, JJ.to10f rfl rfl (by rw [← HI.out]; exact (hC7.put (v := ⟨0, ⟨#[]⟩, ⟨#[]⟩, 0⟩)).bad (hB7.only (Only.set7 _ _ _ _ _ _ _ _ _) (by omega)))⟩
set_option maxRecDepth 100000 in
set_option maxHeartbeats 2000000 in
theorem pass8 (hz : s.size ≤ 65536) (hJ : JJ W w0 b g s R n 8 a w) : (restAt Tryz.f23.body 8).wp Tryz.prog (jumps (fun l' a' w' => ∃ n', n' < n ∧ JJ W w0 b g s R n' l' a' w') (ScQ W w0 b g s R)) a w := by
  obtain ⟨u, ok, k, i, tk, ts, t, x, rfl, rfl, hU, hx, HI, h1, h2, hS0, hC0⟩ := hJ
  obtain rfl : x = .tok ⟨8, nil8, s.extract i (i + 1), 0⟩ (i + 1) := hU
  have hbg := hC0.bg
  clear hx
  by_cases hfull : ts.length = 16384
  · have HR : Hid (R = .bad (flt s 3 nil8 i)) := Lib.hid (by rw [← HI.out]; unfold stepR; simp only [hfull, if_true])
    unfold fr
    conv => arg 2; whnf
    go_wp2_with (first | (go_at_call 54; refine (special_p hS0 hz h2).mono ?_; rintro r w6 ⟨rfl, hS6, hO6⟩; have hC6 := hC0.only hO6; have d0 := hC6.tv.c0; have d1 := hC6.tv.c1; have d2 := hC6.tv.c2; have d3 := hC6.tv.c3; have d4 := hC6.tv.c4; have d5 := hC6.tv.c5; have d6 := hC6.tv.c6; have z0 := hC6.tv.fz 0; have z1 := hC6.tv.fz 1; have z2 := hC6.tv.fz 2; have z3 := hC6.tv.fz 3; have z4 := hC6.tv.fz 4; have z5 := hC6.tv.fz 5; have z6 := hC6.tv.fz 6))
    have hS := hS6.far (show b ≠ g by omega) (.int .i64 8) (.string ⟨#[]⟩) (.string (s.extract i (i + 1))) (.int .i64 0) (.bool false) (.int .i64 0) (.int .i64 0)
    have hC := hC6.put (v := ⟨8, nil8, s.extract i (i + 1), 0⟩)
    go_step3
    go_wp2_with (first | (go_at_call 55; refine (accept_full hS ⟨8, nil8, s.extract i (i + 1), 0⟩ hC.tr hfull).mono ?_; rintro r w7 ⟨rfl, hB7, hO7⟩))
    go_step3
    go_wp2
    exact ⟨rfl, by rw [HR.out]; exact (hC.only hO7).bad hB7⟩
  · have HR : Hid (lexF s k (i + 1) (ts ++ [(⟨8, nil8, s.extract i (i + 1), 0⟩ : Tk).at' (pos s i)]) = R) := Lib.hid (by rw [← HI.out]; unfold stepR; simp only [hfull, if_false])
    have hfull : ts.length < 16384 := by have := hC0.tl; omega
    unfold fr
    conv => arg 2; whnf
    go_wp2_with (first | (go_at_call 54; refine (special_p hS0 hz h2).mono ?_; rintro r w6 ⟨rfl, hS6, hO6⟩; have hC6 := hC0.only hO6; have d0 := hC6.tv.c0; have d1 := hC6.tv.c1; have d2 := hC6.tv.c2; have d3 := hC6.tv.c3; have d4 := hC6.tv.c4; have d5 := hC6.tv.c5; have d6 := hC6.tv.c6; have z0 := hC6.tv.fz 0; have z1 := hC6.tv.fz 1; have z2 := hC6.tv.fz 2; have z3 := hC6.tv.fz 3; have z4 := hC6.tv.fz 4; have z5 := hC6.tv.fz 5; have z6 := hC6.tv.fz 6))
    have hS := hS6.far (show b ≠ g by omega) (.int .i64 8) (.string ⟨#[]⟩) (.string (s.extract i (i + 1))) (.int .i64 0) (.bool false) (.int .i64 0) (.int .i64 0)
    have hC := hC6.put (v := ⟨8, nil8, s.extract i (i + 1), 0⟩)
    go_step3
    go_wp2_with (first | (go_at_call 55; refine (accept_p hS ⟨8, nil8, s.extract i (i + 1), 0⟩ (B := g + 1) (by omega) hC.zg (by omega) hC.tr hfull).mono ?_; rintro r w7 ⟨rfl, tk7, hS7, hT7, hO7⟩))
    go_step3
    go_wp2
    go_step3
    exact ⟨4 * k + 3, by omega, JJ.to0 rfl rfl HR (by omega) (by omega) hS7 (hC.app hT7 hO7 hfull)⟩
end
end Go.Proofs.YtakojceggpljoaaGreatDoor
