/-
  WALKS. The reference's machine: step, by cases.
  WALKS. The reference's machine: step, by cases.
-/
import Derived.Test.YthblchafjmgmbaaLzM
namespace Go.Proofs.Ythblchafjmgmbaa
open Go.RowKit Go.Maps
section
variable {w w' : World} {b : Nat} {vs vo : Value} {m : RM} {li : Int} {fi : Bool}
set_option maxRecDepth 100000 in
set_option maxHeartbeats 8000000 in
theorem rstep_ff8 (h : MS w b vs vo m li true F0) (hk : 4 * m.stack.length + 2 * m.out.length + 100 ≤ 1000000000000) (t : Tok) (hx : m.expects = false) (hsk : (rOpen m t).1 = false) (hop : (t.op == 8) = true) (hOut : ∀ m', rStep m t (!true && decide (li < t.line)) = some m' → m'.out.length ≤ 1000000000000) : Calls Try.prog 15 #[.pointer (some ⟨b, 0, none⟩), tokV t] w (StpR w b vs vo t (rStep m t (!true && decide (li < t.line)))) := by
  have hbl := h.lt
  have h0 := h.same (Only.alloc (Only.refl (fun _ => False) _) (.cells (tokA t) 33))
  have t0 : TB (w.alloc (.cells (tokA t) 33)) w.heap.size t := new_block _ _
  have hp0 : Pr (w.alloc (.cells (tokA t) 33)) b vs vo w.heap.size := h.pr (Nat.le_refl _) (lt_of_block t0)
  have hf0 : Frm w b vs vo (w.alloc (.cells (tokA t) 33)) vs vo := Frm.keep (Only.alloc (Only.refl _ _) _)
  have hne : ¬ w.heap.size = b := by omega
  have hne' : ¬ b = w.heap.size := by omega
  obtain ⟨i0', hi, hz0, hz1, hz2⟩ := info_parts infoTok
  have HI0 := Lib.hid hi
  have HZ0 := Lib.hid hz0
  have HZ1 := Lib.hid hz1
  have HZ2 := Lib.hid hz2
  clear hi hz0 hz1 hz2
  obtain ⟨mo, hmo⟩ : ∃ mo, (rOpen m t).2 = mo := ⟨_, rfl⟩
  have hos := rOpen_sz m t
  rw [hmo] at hos
  obtain ⟨ho1, ho2⟩ := hos
  have hcb := cntB_le mo.stack
  have c2 := h.c2
  have c3 := h.c3
  rw [hx] at c2
  have HSK : Hid ((rOpen m t).1 = false) := Lib.hid hsk
  have HMO := Lib.hid hmo
  have hk4 : Sz 4 m := by unfold Sz; omega
  have hre : rStep m t (!true && decide (li < t.line)) = rRest mo t ⟨#[]⟩ := by rw [rStep_eq, hsk, hmo, hx]; rfl
  rw [hre] at hOut ⊢
  have hlp : mo.stack.length + mo.out.length + cntB mo.stack + 1 ≤ 1000000000000 := by omega
  have hlK : cntB mo.stack ≤ mo.stack.length + 1 := by omega
  obtain ⟨m1, hm1⟩ : ∃ m1, mo = m1 := ⟨_, rfl⟩
  have hls : m1.stack.length + m1.out.length ≤ mo.stack.length + mo.out.length + cntB mo.stack + 1 := by rw [hm1]; omega
  clear hre
  subst hm1
  have hit := rItem_sz mo t
  obtain ⟨m2, hm2⟩ : ∃ m2, rItem mo t = m2 := ⟨_, rfl⟩
  rw [hm2] at hit
  obtain ⟨hi1, hi2⟩ := hit
  have hi2l : m2.out.length = mo.out.length := by rw [hi2]
  have hcn := cnt_le m2.stack
  have hs1 : Sz 1 mo := by unfold Sz; omega
  have hs2 : Sz 1 m2 := by unfold Sz; omega
  have hsp : m2.stack.length + m2.out.length + cnt m2.stack + 1 ≤ 1000000000000 := by omega
  have hopv : t.op = 8 := by simpa using hop
  have ho8 : (t.op == 8) = true := by rw [hopv]; rfl
  have ho9 : (t.op == 9) = false := by rw [hopv]; rfl
  have ho10 : (t.op == 10) = false := by rw [hopv]; rfl
  have hrr : rRest mo t ⟨#[]⟩ = (rSpecials m2 t ⟨#[]⟩).map fun m => app1 m t := by unfold rRest; rw [ho8, ho9, hm2]; rfl
  rw [hrr] at hOut ⊢
  have hOb : ∀ m', rSpecials m2 t ⟨#[]⟩ = some m' → m'.out.length + 1 ≤ 1000000000000 := fun m' hm => by
    have := hOut (app1 m' t) (by rw [hm]; rfl)
    have e1 : (app1 m' t).out.length = m'.out.length + 1 := by show (m'.out ++ [t]).length = _; simp
    omega
  have HOB := Lib.hid hOb
  have HM2 := Lib.hid hm2
  clear hrr hOut hsk hmo hx hm2 hOb hi1 hi2 hi2l hcn hls hop hopv
  go_enter Try.func15, Try.ntmps15
  go_wp2_with ((go_at_call 28; ((with_reducible refine (ropen_p h0 hk4 t).mono ?_); unfold OpR; rw [HSK.out, HMO.out]; rintro r w1 ⟨rfl, vs1, vo1, hS1, hF1⟩; have hT1 := TB.frm t0 hp0 hF1; have hP1 := (hp0.frm hF1).1; have hG1 := hf0.trans hF1; have c5 := hS1.c5; have c4 := hS1.c4; have c6 : w1.cell? ⟨b, 6, none⟩ = some (.int .i64 0) := hS1.c6; obtain ⟨a0, a1, a2, a3, a4, a5, a6⟩ := hT1.all)))
  go_quiet (fail)
  go_wp2_with (first | (go_at_call 30; (refine (ritem_p (hS1.same (only_drewN _ _)) hs1 t).mono ?_); rw [HM2.out]; rintro r w3 ⟨rfl, vs3, vo3, hS3, hF3⟩; have hFd := (Frm.keep (only_drewN _ _)).trans hF3; have hT3 := TB.frm hT1 hP1 hFd; have hP3 := (hP1.frm hFd).1; have hG3 := hG1.trans hFd; obtain ⟨d0, d1, d2, d3, d4, d5, d6⟩ := hT3.all) | (go_at_call 31; (refine (rspecials_p hS3 hsp t ⟨#[]⟩).mono ?_); rintro r w4 hRe; obtain ⟨rfl, mz, Fz, hmz, HZ, vs4, vo4, hS4, hF4⟩ := hRe.any HOB.out; have hT4 := TB.frm hT3 hP3 hF4; have hP4 := (hP3.frm hF4).1; have hG4 := hG3.trans hF4; obtain ⟨g0, g1, g2, g3, g4, g5, g6⟩ := hT4.all; obtain ⟨oa, ca, hvo⟩ := hS4.olen; subst hvo; have y5 := hS4.fz 5; have y4 := hS4.fz 4; have y1 := hS4.fz 1; have k1 := hS4.c1; have k5 := hS4.c5; have k4 := hS4.c4; have hb4 := hS4.lt))
  have hS5 := hS4.past t.line
  have hsz5 : (pastW w4 b t.line).heap.size = w4.heap.size := past_sz _ _ _
  have HSZ := Lib.hid hsz5
  have hHO : (pastW w4 b t.line).ownsRow (b + 1) 33 7 (.slice oa mz.out.length ca) mz.out.length (mz.out.flatMap tokCells) := hS5.out
  clear hsz5
  go_region_law ((refine step_append_lies _ rfl (.tmp 79) (.tmp 81) 22 rfl (b + 1) 33 i0' (.agg #[.int .i64 0, .string ⟨#[]⟩, .string ⟨#[]⟩, .int .i64 0, .bool false, .int .i64 0, .int .i64 0]) 7 72 Try.underlying22 HI0.out HZ0.out HZ1.out HZ2.out rfl (by decide) (.slice oa mz.out.length ca) mz.out.length (mz.out.flatMap tokCells) ?e1 (World.ownsRow.alloc hHO _) ⟨w4.heap.size, 0, none⟩ 1 1 (tokCells t) ?e2 rfl (World.news_of_block (new_at _ HSZ.out)) (one_tok t) Nat.one_pos (by unfold maxLen; omega) (by omega) (by show b + 1 ≤ (Array.push _ _).size; rw [Array.size_push, HSZ.out]; omega) _ rfl ?_); (case e1 => simp [Act.eval]); (case e2 => simp [Act.eval]); (intro g cg w6 hown' hgrow hat hlt'; have hS6 := MS.grownO (hS5.same (((Only.refl _ _).alloc _).drew)) hgrow; have p1 := (blk_c (k := 1) hS6.1 rfl).1; have v1 := (blk_c (k := 1) hS6.1 rfl).2))
  all_goals
    have hTR := TR.snoc (t := t) hown'
    have hO6 : Only (KE b (.slice oa mz.out.length ca)) (pastW w4 b t.line) w6 := (((Only.refl _ _).alloc _).drew).trans (Only.grown hgrow (fun k hk => .inr hk))
    have HBL := Lib.hid (show ∀ g', (Value.slice (some ⟨g, 0, none⟩) (mz.out.length + 1) cg).ownBlock = some g' → (Value.slice oa mz.out.length ca).ownBlock = some g' ∨ (pastW w4 b t.line).heap.size ≤ g' from fun g' hg' => by
      have hgg : g = g' := Option.some.inj hg'
      rcases hat with e | e
      · exact .inl (hgg ▸ e)
      · right
        have e3 : g = (Array.push (pastW w4 b t.line).heap (.cells (tokA t) 33)).size := e
        rw [Array.size_push] at e3
        omega)
    clear hown' hgrow hHO hat
    go_wp2
    go_end0
    exact StpR.fin HZ.out ((MS.put (k := 1) (F := Fz) (F' := Fz) (m := mz) (m' := app1 mz t) hS6.1 rfl hS6.2 hTR).x ((hG4.trans (past_frm _ _ _ _ _)).trans ⟨(hO6.setCell (.inl rfl) _).wide (fun i hi => hi.elim .inl (fun e => .inr (.inr e))), fun _ hg => .inl hg, HBL.out⟩))
set_option maxRecDepth 100000 in
set_option maxHeartbeats 8000000 in
theorem rstep_ff9 (h : MS w b vs vo m li true F0) (hk : 4 * m.stack.length + 2 * m.out.length + 100 ≤ 1000000000000) (t : Tok) (hx : m.expects = false) (hsk : (rOpen m t).1 = false) (hop : (t.op == 9) = true) (hOut : ∀ m', rStep m t (!true && decide (li < t.line)) = some m' → m'.out.length ≤ 1000000000000) : Calls Try.prog 15 #[.pointer (some ⟨b, 0, none⟩), tokV t] w (StpR w b vs vo t (rStep m t (!true && decide (li < t.line)))) := by
  have hbl := h.lt
  have h0 := h.same (Only.alloc (Only.refl (fun _ => False) _) (.cells (tokA t) 33))
  have t0 : TB (w.alloc (.cells (tokA t) 33)) w.heap.size t := new_block _ _
  have hp0 : Pr (w.alloc (.cells (tokA t) 33)) b vs vo w.heap.size := h.pr (Nat.le_refl _) (lt_of_block t0)
  have hf0 : Frm w b vs vo (w.alloc (.cells (tokA t) 33)) vs vo := Frm.keep (Only.alloc (Only.refl _ _) _)
  have hne : ¬ w.heap.size = b := by omega
  have hne' : ¬ b = w.heap.size := by omega
  obtain ⟨i0', hi, hz0, hz1, hz2⟩ := info_parts infoTok
  have HI0 := Lib.hid hi
  have HZ0 := Lib.hid hz0
  have HZ1 := Lib.hid hz1
  have HZ2 := Lib.hid hz2
  clear hi hz0 hz1 hz2
  obtain ⟨mo, hmo⟩ : ∃ mo, (rOpen m t).2 = mo := ⟨_, rfl⟩
  have hos := rOpen_sz m t
  rw [hmo] at hos
  obtain ⟨ho1, ho2⟩ := hos
  have hcb := cntB_le mo.stack
  have c2 := h.c2
  have c3 := h.c3
  rw [hx] at c2
  have HSK : Hid ((rOpen m t).1 = false) := Lib.hid hsk
  have HMO := Lib.hid hmo
  have hk4 : Sz 4 m := by unfold Sz; omega
  have hre : rStep m t (!true && decide (li < t.line)) = rRest mo t ⟨#[]⟩ := by rw [rStep_eq, hsk, hmo, hx]; rfl
  rw [hre] at hOut ⊢
  have hlp : mo.stack.length + mo.out.length + cntB mo.stack + 1 ≤ 1000000000000 := by omega
  have hlK : cntB mo.stack ≤ mo.stack.length + 1 := by omega
  obtain ⟨m1, hm1⟩ : ∃ m1, mo = m1 := ⟨_, rfl⟩
  have hls : m1.stack.length + m1.out.length ≤ mo.stack.length + mo.out.length + cntB mo.stack + 1 := by rw [hm1]; omega
  clear hre
  subst hm1
  have hit := rItem_sz mo t
  obtain ⟨m2, hm2⟩ : ∃ m2, rItem mo t = m2 := ⟨_, rfl⟩
  rw [hm2] at hit
  obtain ⟨hi1, hi2⟩ := hit
  have hi2l : m2.out.length = mo.out.length := by rw [hi2]
  have hcn := cnt_le m2.stack
  have hs1 : Sz 1 mo := by unfold Sz; omega
  have hs2 : Sz 1 m2 := by unfold Sz; omega
  have hsp : m2.stack.length + m2.out.length + cnt m2.stack + 1 ≤ 1000000000000 := by omega
  have hopv : t.op = 9 := by simpa using hop
  have ho8 : (t.op == 8) = false := by rw [hopv]; rfl
  have ho9 : (t.op == 9) = true := by rw [hopv]; rfl
  have ho10 : (t.op == 10) = false := by rw [hopv]; rfl
  have hrr : rRest mo t ⟨#[]⟩ = (rWords m2 t).map fun m => app1 m t := by unfold rRest; rw [ho8, ho9, hm2]; rfl
  rw [hrr] at hOut ⊢
  have hOb : ∀ m', rWords m2 t = some m' → m'.out.length + 1 ≤ 1000000000000 := fun m' hm => by
    have := hOut (app1 m' t) (by rw [hm]; rfl)
    have e1 : (app1 m' t).out.length = m'.out.length + 1 := by show (m'.out ++ [t]).length = _; simp
    omega
  have HOB := Lib.hid hOb
  have HM2 := Lib.hid hm2
  clear hrr hOut hsk hmo hx hm2 hOb hi1 hi2 hi2l hcn hls hop hopv
  go_enter Try.func15, Try.ntmps15
  go_wp2_with ((go_at_call 28; ((with_reducible refine (ropen_p h0 hk4 t).mono ?_); unfold OpR; rw [HSK.out, HMO.out]; rintro r w1 ⟨rfl, vs1, vo1, hS1, hF1⟩; have hT1 := TB.frm t0 hp0 hF1; have hP1 := (hp0.frm hF1).1; have hG1 := hf0.trans hF1; have c5 := hS1.c5; have c4 := hS1.c4; have c6 : w1.cell? ⟨b, 6, none⟩ = some (.int .i64 0) := hS1.c6; obtain ⟨a0, a1, a2, a3, a4, a5, a6⟩ := hT1.all)))
  go_quiet (fail)
  go_wp2_with (first | (go_at_call 30; (refine (ritem_p (hS1.same (only_drewN _ _)) hs1 t).mono ?_); rw [HM2.out]; rintro r w3 ⟨rfl, vs3, vo3, hS3, hF3⟩; have hFd := (Frm.keep (only_drewN _ _)).trans hF3; have hT3 := TB.frm hT1 hP1 hFd; have hP3 := (hP1.frm hFd).1; have hG3 := hG1.trans hFd; obtain ⟨d0, d1, d2, d3, d4, d5, d6⟩ := hT3.all) | (go_at_call 32; (refine (rwords_p hS3 hs2 t ho9).mono ?_); rintro r w4 hRe; obtain ⟨rfl, mz, Fz, hmz, HZ, vs4, vo4, hS4, hF4⟩ := hRe.any HOB.out; have hT4 := TB.frm hT3 hP3 hF4; have hP4 := (hP3.frm hF4).1; have hG4 := hG3.trans hF4; obtain ⟨g0, g1, g2, g3, g4, g5, g6⟩ := hT4.all; obtain ⟨oa, ca, hvo⟩ := hS4.olen; subst hvo; have y5 := hS4.fz 5; have y4 := hS4.fz 4; have y1 := hS4.fz 1; have k1 := hS4.c1; have k5 := hS4.c5; have k4 := hS4.c4; have hb4 := hS4.lt))
  have hS5 := hS4.past t.line
  have hsz5 : (pastW w4 b t.line).heap.size = w4.heap.size := past_sz _ _ _
  have HSZ := Lib.hid hsz5
  have hHO : (pastW w4 b t.line).ownsRow (b + 1) 33 7 (.slice oa mz.out.length ca) mz.out.length (mz.out.flatMap tokCells) := hS5.out
  clear hsz5
  go_region_law ((refine step_append_lies _ rfl (.tmp 79) (.tmp 81) 22 rfl (b + 1) 33 i0' (.agg #[.int .i64 0, .string ⟨#[]⟩, .string ⟨#[]⟩, .int .i64 0, .bool false, .int .i64 0, .int .i64 0]) 7 72 Try.underlying22 HI0.out HZ0.out HZ1.out HZ2.out rfl (by decide) (.slice oa mz.out.length ca) mz.out.length (mz.out.flatMap tokCells) ?e1 (World.ownsRow.alloc hHO _) ⟨w4.heap.size, 0, none⟩ 1 1 (tokCells t) ?e2 rfl (World.news_of_block (new_at _ HSZ.out)) (one_tok t) Nat.one_pos (by unfold maxLen; omega) (by omega) (by show b + 1 ≤ (Array.push _ _).size; rw [Array.size_push, HSZ.out]; omega) _ rfl ?_); (case e1 => simp [Act.eval]); (case e2 => simp [Act.eval]); (intro g cg w6 hown' hgrow hat hlt'; have hS6 := MS.grownO (hS5.same (((Only.refl _ _).alloc _).drew)) hgrow; have p1 := (blk_c (k := 1) hS6.1 rfl).1; have v1 := (blk_c (k := 1) hS6.1 rfl).2))
  all_goals
    have hTR := TR.snoc (t := t) hown'
    have hO6 : Only (KE b (.slice oa mz.out.length ca)) (pastW w4 b t.line) w6 := (((Only.refl _ _).alloc _).drew).trans (Only.grown hgrow (fun k hk => .inr hk))
    have HBL := Lib.hid (show ∀ g', (Value.slice (some ⟨g, 0, none⟩) (mz.out.length + 1) cg).ownBlock = some g' → (Value.slice oa mz.out.length ca).ownBlock = some g' ∨ (pastW w4 b t.line).heap.size ≤ g' from fun g' hg' => by
      have hgg : g = g' := Option.some.inj hg'
      rcases hat with e | e
      · exact .inl (hgg ▸ e)
      · right
        have e3 : g = (Array.push (pastW w4 b t.line).heap (.cells (tokA t) 33)).size := e
        rw [Array.size_push] at e3
        omega)
    clear hown' hgrow hHO hat
    go_wp2
    go_end0
    exact StpR.fin HZ.out ((MS.put (k := 1) (F := Fz) (F' := Fz) (m := mz) (m' := app1 mz t) hS6.1 rfl hS6.2 hTR).x ((hG4.trans (past_frm _ _ _ _ _)).trans ⟨(hO6.setCell (.inl rfl) _).wide (fun i hi => hi.elim .inl (fun e => .inr (.inr e))), fun _ hg => .inl hg, HBL.out⟩))
set_option maxRecDepth 100000 in
set_option maxHeartbeats 8000000 in
theorem rstep_ffe (h : MS w b vs vo m li true F0) (hk : 4 * m.stack.length + 2 * m.out.length + 100 ≤ 1000000000000) (t : Tok) (hx : m.expects = false) (hsk : (rOpen m t).1 = false) (hop : (t.op == 10) = true) (htx : tx t.text [61] = true) (hOut : ∀ m', rStep m t (!true && decide (li < t.line)) = some m' → m'.out.length ≤ 1000000000000) : Calls Try.prog 15 #[.pointer (some ⟨b, 0, none⟩), tokV t] w (StpR w b vs vo t (rStep m t (!true && decide (li < t.line)))) := by
  have hbl := h.lt
  have h0 := h.same (Only.alloc (Only.refl (fun _ => False) _) (.cells (tokA t) 33))
  have t0 : TB (w.alloc (.cells (tokA t) 33)) w.heap.size t := new_block _ _
  have hp0 : Pr (w.alloc (.cells (tokA t) 33)) b vs vo w.heap.size := h.pr (Nat.le_refl _) (lt_of_block t0)
  have hf0 : Frm w b vs vo (w.alloc (.cells (tokA t) 33)) vs vo := Frm.keep (Only.alloc (Only.refl _ _) _)
  have hne : ¬ w.heap.size = b := by omega
  have hne' : ¬ b = w.heap.size := by omega
  obtain ⟨i0', hi, hz0, hz1, hz2⟩ := info_parts infoTok
  have HI0 := Lib.hid hi
  have HZ0 := Lib.hid hz0
  have HZ1 := Lib.hid hz1
  have HZ2 := Lib.hid hz2
  clear hi hz0 hz1 hz2
  obtain ⟨mo, hmo⟩ : ∃ mo, (rOpen m t).2 = mo := ⟨_, rfl⟩
  have hos := rOpen_sz m t
  rw [hmo] at hos
  obtain ⟨ho1, ho2⟩ := hos
  have hcb := cntB_le mo.stack
  have c2 := h.c2
  have c3 := h.c3
  rw [hx] at c2
  have HSK : Hid ((rOpen m t).1 = false) := Lib.hid hsk
  have HMO := Lib.hid hmo
  have hk4 : Sz 4 m := by unfold Sz; omega
  have hre : rStep m t (!true && decide (li < t.line)) = rRest mo t ⟨#[]⟩ := by rw [rStep_eq, hsk, hmo, hx]; rfl
  rw [hre] at hOut ⊢
  have hlp : mo.stack.length + mo.out.length + cntB mo.stack + 1 ≤ 1000000000000 := by omega
  have hlK : cntB mo.stack ≤ mo.stack.length + 1 := by omega
  obtain ⟨m1, hm1⟩ : ∃ m1, mo = m1 := ⟨_, rfl⟩
  have hls : m1.stack.length + m1.out.length ≤ mo.stack.length + mo.out.length + cntB mo.stack + 1 := by rw [hm1]; omega
  clear hre
  subst hm1
  have hit := rItem_sz mo t
  obtain ⟨m2, hm2⟩ : ∃ m2, rItem mo t = m2 := ⟨_, rfl⟩
  rw [hm2] at hit
  obtain ⟨hi1, hi2⟩ := hit
  have hi2l : m2.out.length = mo.out.length := by rw [hi2]
  have hcn := cnt_le m2.stack
  have hs1 : Sz 1 mo := by unfold Sz; omega
  have hs2 : Sz 1 m2 := by unfold Sz; omega
  have hsp : m2.stack.length + m2.out.length + cnt m2.stack + 1 ≤ 1000000000000 := by omega
  obtain ⟨mz, hmk⟩ : ∃ mz, rMark m2 true = mz := ⟨_, rfl⟩
  have HMK := Lib.hid hmk
  have hopv : t.op = 10 := by simpa using hop
  have ho8 : (t.op == 8) = false := by rw [hopv]; rfl
  have ho9 : (t.op == 9) = false := by rw [hopv]; rfl
  have ho10 : (t.op == 10) = true := by rw [hopv]; rfl
  have htl : (t.text.toList == [61]) = true := by rw [Lib.toList_data]; exact htx
  have hrr : rRest mo t ⟨#[]⟩ = (some mz).map fun m => app1 m t := by unfold rRest; rw [ho8, ho9, ho10, htx, hm2, hmk]; rfl
  rw [hrr] at hOut ⊢
  have hOb : ∀ m', some mz = some m' → m'.out.length + 1 ≤ 1000000000000 := fun m' hm => by
    have := hOut (app1 m' t) (by rw [hm]; rfl)
    have e1 : (app1 m' t).out.length = m'.out.length + 1 := by show (m'.out ++ [t]).length = _; simp
    omega
  have HOB := Lib.hid hOb
  have HM2 := Lib.hid hm2
  clear hrr hOut hsk hmo hx hm2 hOb hi1 hi2 hi2l hcn hls htx hmk hop hopv
  go_enter Try.func15, Try.ntmps15
  go_wp2_with ((go_at_call 28; ((with_reducible refine (ropen_p h0 hk4 t).mono ?_); unfold OpR; rw [HSK.out, HMO.out]; rintro r w1 ⟨rfl, vs1, vo1, hS1, hF1⟩; have hT1 := TB.frm t0 hp0 hF1; have hP1 := (hp0.frm hF1).1; have hG1 := hf0.trans hF1; have c5 := hS1.c5; have c4 := hS1.c4; have c6 : w1.cell? ⟨b, 6, none⟩ = some (.int .i64 0) := hS1.c6; obtain ⟨a0, a1, a2, a3, a4, a5, a6⟩ := hT1.all)))
  go_quiet (fail)
  go_wp2_with (first | (go_at_call 30; (refine (ritem_p (hS1.same (only_drewN _ _)) hs1 t).mono ?_); rw [HM2.out]; rintro r w3 ⟨rfl, vs3, vo3, hS3, hF3⟩; have hFd := (Frm.keep (only_drewN _ _)).trans hF3; have hT3 := TB.frm hT1 hP1 hFd; have hP3 := (hP1.frm hFd).1; have hG3 := hG1.trans hFd; obtain ⟨d0, d1, d2, d3, d4, d5, d6⟩ := hT3.all) | (go_at_call 33; (refine (rmark_p hS3 (hs2.less (Nat.zero_le 1)).rm true).mono ?_); rw [HMK.out]; rintro r w4 ⟨rfl, vs4, vo4, hS4, hF4⟩; have hmz := HOB.out _ rfl; have hT4 := TB.frm hT3 hP3 hF4; have hP4 := (hP3.frm hF4).1; have hG4 := hG3.trans hF4; obtain ⟨g0, g1, g2, g3, g4, g5, g6⟩ := hT4.all; obtain ⟨oa, ca, hvo⟩ := hS4.olen; subst hvo; have y5 := hS4.fz 5; have y4 := hS4.fz 4; have y1 := hS4.fz 1; have k1 := hS4.c1; have k5 := hS4.c5; have k4 := hS4.c4; have hb4 := hS4.lt))
  have hS5 := hS4.past t.line
  have hsz5 : (pastW w4 b t.line).heap.size = w4.heap.size := past_sz _ _ _
  have HSZ := Lib.hid hsz5
  have hHO : (pastW w4 b t.line).ownsRow (b + 1) 33 7 (.slice oa mz.out.length ca) mz.out.length (mz.out.flatMap tokCells) := hS5.out
  clear hsz5
  go_region_law ((refine step_append_lies _ rfl (.tmp 79) (.tmp 81) 22 rfl (b + 1) 33 i0' (.agg #[.int .i64 0, .string ⟨#[]⟩, .string ⟨#[]⟩, .int .i64 0, .bool false, .int .i64 0, .int .i64 0]) 7 72 Try.underlying22 HI0.out HZ0.out HZ1.out HZ2.out rfl (by decide) (.slice oa mz.out.length ca) mz.out.length (mz.out.flatMap tokCells) ?e1 (World.ownsRow.alloc hHO _) ⟨w4.heap.size, 0, none⟩ 1 1 (tokCells t) ?e2 rfl (World.news_of_block (new_at _ HSZ.out)) (one_tok t) Nat.one_pos (by unfold maxLen; omega) (by omega) (by show b + 1 ≤ (Array.push _ _).size; rw [Array.size_push, HSZ.out]; omega) _ rfl ?_); (case e1 => simp [Act.eval]); (case e2 => simp [Act.eval]); (intro g cg w6 hown' hgrow hat hlt'; have hS6 := MS.grownO (hS5.same (((Only.refl _ _).alloc _).drew)) hgrow; have p1 := (blk_c (k := 1) hS6.1 rfl).1; have v1 := (blk_c (k := 1) hS6.1 rfl).2))
  all_goals
    have hTR := TR.snoc (t := t) hown'
    have hO6 : Only (KE b (.slice oa mz.out.length ca)) (pastW w4 b t.line) w6 := (((Only.refl _ _).alloc _).drew).trans (Only.grown hgrow (fun k hk => .inr hk))
    have HBL := Lib.hid (show ∀ g', (Value.slice (some ⟨g, 0, none⟩) (mz.out.length + 1) cg).ownBlock = some g' → (Value.slice oa mz.out.length ca).ownBlock = some g' ∨ (pastW w4 b t.line).heap.size ≤ g' from fun g' hg' => by
      have hgg : g = g' := Option.some.inj hg'
      rcases hat with e | e
      · exact .inl (hgg ▸ e)
      · right
        have e3 : g = (Array.push (pastW w4 b t.line).heap (.cells (tokA t) 33)).size := e
        rw [Array.size_push] at e3
        omega)
    clear hown' hgrow hHO hat
    go_wp2
    go_end0
    exact StpR.fin (R := some mz) (.inr ⟨rfl, rfl⟩) ((MS.put (k := 1) (F := F0) (F' := F0) (m := mz) (m' := app1 mz t) hS6.1 rfl hS6.2 hTR).x ((hG4.trans (past_frm _ _ _ _ _)).trans ⟨(hO6.setCell (.inl rfl) _).wide (fun i hi => hi.elim .inl (fun e => .inr (.inr e))), fun _ hg => .inl hg, HBL.out⟩))
set_option maxRecDepth 100000 in
set_option maxHeartbeats 8000000 in
theorem rstep_ffy (h : MS w b vs vo m li true F0) (hk : 4 * m.stack.length + 2 * m.out.length + 100 ≤ 1000000000000) (t : Tok) (hx : m.expects = false) (hsk : (rOpen m t).1 = false) (hop : (t.op == 10) = true) (htx : tx t.text [61] = false) (hOut : ∀ m', rStep m t (!true && decide (li < t.line)) = some m' → m'.out.length ≤ 1000000000000) : Calls Try.prog 15 #[.pointer (some ⟨b, 0, none⟩), tokV t] w (StpR w b vs vo t (rStep m t (!true && decide (li < t.line)))) := by
  have hbl := h.lt
  have h0 := h.same (Only.alloc (Only.refl (fun _ => False) _) (.cells (tokA t) 33))
  have t0 : TB (w.alloc (.cells (tokA t) 33)) w.heap.size t := new_block _ _
  have hp0 : Pr (w.alloc (.cells (tokA t) 33)) b vs vo w.heap.size := h.pr (Nat.le_refl _) (lt_of_block t0)
  have hf0 : Frm w b vs vo (w.alloc (.cells (tokA t) 33)) vs vo := Frm.keep (Only.alloc (Only.refl _ _) _)
  have hne : ¬ w.heap.size = b := by omega
  have hne' : ¬ b = w.heap.size := by omega
  obtain ⟨i0', hi, hz0, hz1, hz2⟩ := info_parts infoTok
  have HI0 := Lib.hid hi
  have HZ0 := Lib.hid hz0
  have HZ1 := Lib.hid hz1
  have HZ2 := Lib.hid hz2
  clear hi hz0 hz1 hz2
  obtain ⟨mo, hmo⟩ : ∃ mo, (rOpen m t).2 = mo := ⟨_, rfl⟩
  have hos := rOpen_sz m t
  rw [hmo] at hos
  obtain ⟨ho1, ho2⟩ := hos
  have hcb := cntB_le mo.stack
  have c2 := h.c2
  have c3 := h.c3
  rw [hx] at c2
  have HSK : Hid ((rOpen m t).1 = false) := Lib.hid hsk
  have HMO := Lib.hid hmo
  have hk4 : Sz 4 m := by unfold Sz; omega
  have hre : rStep m t (!true && decide (li < t.line)) = rRest mo t ⟨#[]⟩ := by rw [rStep_eq, hsk, hmo, hx]; rfl
  rw [hre] at hOut ⊢
  have hlp : mo.stack.length + mo.out.length + cntB mo.stack + 1 ≤ 1000000000000 := by omega
  have hlK : cntB mo.stack ≤ mo.stack.length + 1 := by omega
  obtain ⟨m1, hm1⟩ : ∃ m1, mo = m1 := ⟨_, rfl⟩
  have hls : m1.stack.length + m1.out.length ≤ mo.stack.length + mo.out.length + cntB mo.stack + 1 := by rw [hm1]; omega
  clear hre
  subst hm1
  have hit := rItem_sz mo t
  obtain ⟨m2, hm2⟩ : ∃ m2, rItem mo t = m2 := ⟨_, rfl⟩
  rw [hm2] at hit
  obtain ⟨hi1, hi2⟩ := hit
  have hi2l : m2.out.length = mo.out.length := by rw [hi2]
  have hcn := cnt_le m2.stack
  have hs1 : Sz 1 mo := by unfold Sz; omega
  have hs2 : Sz 1 m2 := by unfold Sz; omega
  have hsp : m2.stack.length + m2.out.length + cnt m2.stack + 1 ≤ 1000000000000 := by omega
  have hopv : t.op = 10 := by simpa using hop
  have ho8 : (t.op == 8) = false := by rw [hopv]; rfl
  have ho9 : (t.op == 9) = false := by rw [hopv]; rfl
  have ho10 : (t.op == 10) = true := by rw [hopv]; rfl
  have htl : (t.text.toList == [61]) = false := by rw [Lib.toList_data]; exact htx
  have hrr : rRest mo t ⟨#[]⟩ = (some m2).map fun m => app1 m t := by unfold rRest; rw [ho8, ho9, ho10, htx, hm2]; rfl
  rw [hrr] at hOut ⊢
  have hOb : ∀ m', some m2 = some m' → m'.out.length + 1 ≤ 1000000000000 := fun m' hm => by
    have := hOut (app1 m' t) (by rw [hm]; rfl)
    have e1 : (app1 m' t).out.length = m'.out.length + 1 := by show (m'.out ++ [t]).length = _; simp
    omega
  have HOB := Lib.hid hOb
  have HM2 := Lib.hid hm2
  clear hrr hOut hsk hmo hx hm2 hOb hi1 hi2 hi2l hcn hls htx hop hopv
  go_enter Try.func15, Try.ntmps15
  go_wp2_with ((go_at_call 28; ((with_reducible refine (ropen_p h0 hk4 t).mono ?_); unfold OpR; rw [HSK.out, HMO.out]; rintro r w1 ⟨rfl, vs1, vo1, hS1, hF1⟩; have hT1 := TB.frm t0 hp0 hF1; have hP1 := (hp0.frm hF1).1; have hG1 := hf0.trans hF1; have c5 := hS1.c5; have c4 := hS1.c4; have c6 : w1.cell? ⟨b, 6, none⟩ = some (.int .i64 0) := hS1.c6; obtain ⟨a0, a1, a2, a3, a4, a5, a6⟩ := hT1.all)))
  go_quiet (fail)
  go_wp2_with ((go_at_call 30; (refine (ritem_p (hS1.same (only_drewN _ _)) hs1 t).mono ?_); rw [HM2.out]; rintro r w3 ⟨rfl, vs3, vo3, hS3, hF3⟩; have hFd := (Frm.keep (only_drewN _ _)).trans hF3; have hT3 := TB.frm hT1 hP1 hFd; have hP3 := (hP1.frm hFd).1; have hG3 := hG1.trans hFd; obtain ⟨d0, d1, d2, d3, d4, d5, d6⟩ := hT3.all; have hS4 := hS3; have hG4 := hG3; have hT4 := hT3; have hP4 := hP3; have hmz := HOB.out _ rfl; obtain ⟨oa, ca, hvo⟩ := hS4.olen; subst hvo; have y5 := hS4.fz 5; have y4 := hS4.fz 4; have y1 := hS4.fz 1; have k1 := hS4.c1; have k5 := hS4.c5; have k4 := hS4.c4; have hb4 := hS4.lt))
  have hS5 := hS4.past t.line
  have hsz5 : (pastW w3 b t.line).heap.size = w3.heap.size := past_sz _ _ _
  have HSZ := Lib.hid hsz5
  have hHO : (pastW w3 b t.line).ownsRow (b + 1) 33 7 (.slice oa m2.out.length ca) m2.out.length (m2.out.flatMap tokCells) := hS5.out
  clear hsz5
  go_region_law ((refine step_append_lies _ rfl (.tmp 79) (.tmp 81) 22 rfl (b + 1) 33 i0' (.agg #[.int .i64 0, .string ⟨#[]⟩, .string ⟨#[]⟩, .int .i64 0, .bool false, .int .i64 0, .int .i64 0]) 7 72 Try.underlying22 HI0.out HZ0.out HZ1.out HZ2.out rfl (by decide) (.slice oa m2.out.length ca) m2.out.length (m2.out.flatMap tokCells) ?e1 (World.ownsRow.alloc hHO _) ⟨w3.heap.size, 0, none⟩ 1 1 (tokCells t) ?e2 rfl (World.news_of_block (new_at _ HSZ.out)) (one_tok t) Nat.one_pos (by unfold maxLen; omega) (by omega) (by show b + 1 ≤ (Array.push _ _).size; rw [Array.size_push, HSZ.out]; omega) _ rfl ?_); (case e1 => simp [Act.eval]); (case e2 => simp [Act.eval]); (intro g cg w6 hown' hgrow hat hlt'; have hS6 := MS.grownO (hS5.same (((Only.refl _ _).alloc _).drew)) hgrow; have p1 := (blk_c (k := 1) hS6.1 rfl).1; have v1 := (blk_c (k := 1) hS6.1 rfl).2))
  all_goals
    have hTR := TR.snoc (t := t) hown'
    have hO6 : Only (KE b (.slice oa m2.out.length ca)) (pastW w3 b t.line) w6 := (((Only.refl _ _).alloc _).drew).trans (Only.grown hgrow (fun k hk => .inr hk))
    have HBL := Lib.hid (show ∀ g', (Value.slice (some ⟨g, 0, none⟩) (m2.out.length + 1) cg).ownBlock = some g' → (Value.slice oa m2.out.length ca).ownBlock = some g' ∨ (pastW w3 b t.line).heap.size ≤ g' from fun g' hg' => by
      have hgg : g = g' := Option.some.inj hg'
      rcases hat with e | e
      · exact .inl (hgg ▸ e)
      · right
        have e3 : g = (Array.push (pastW w3 b t.line).heap (.cells (tokA t) 33)).size := e
        rw [Array.size_push] at e3
        omega)
    clear hown' hgrow hHO hat
    go_wp2
    go_end0
    exact StpR.fin (R := some m2) (.inr ⟨rfl, rfl⟩) ((MS.put (k := 1) (F := F0) (F' := F0) (m := m2) (m' := app1 m2 t) hS6.1 rfl hS6.2 hTR).x ((hG4.trans (past_frm _ _ _ _ _)).trans ⟨(hO6.setCell (.inl rfl) _).wide (fun i hi => hi.elim .inl (fun e => .inr (.inr e))), fun _ hg => .inl hg, HBL.out⟩))
set_option maxRecDepth 100000 in
set_option maxHeartbeats 8000000 in
theorem rstep_ffx (h : MS w b vs vo m li true F0) (hk : 4 * m.stack.length + 2 * m.out.length + 100 ≤ 1000000000000) (t : Tok) (hx : m.expects = false) (hsk : (rOpen m t).1 = false) (hop8 : (t.op == 8) = false) (hop9 : (t.op == 9) = false) (hop : (t.op == 10) = false) (hOut : ∀ m', rStep m t (!true && decide (li < t.line)) = some m' → m'.out.length ≤ 1000000000000) : Calls Try.prog 15 #[.pointer (some ⟨b, 0, none⟩), tokV t] w (StpR w b vs vo t (rStep m t (!true && decide (li < t.line)))) := by
  have hbl := h.lt
  have h0 := h.same (Only.alloc (Only.refl (fun _ => False) _) (.cells (tokA t) 33))
  have t0 : TB (w.alloc (.cells (tokA t) 33)) w.heap.size t := new_block _ _
  have hp0 : Pr (w.alloc (.cells (tokA t) 33)) b vs vo w.heap.size := h.pr (Nat.le_refl _) (lt_of_block t0)
  have hf0 : Frm w b vs vo (w.alloc (.cells (tokA t) 33)) vs vo := Frm.keep (Only.alloc (Only.refl _ _) _)
  have hne : ¬ w.heap.size = b := by omega
  have hne' : ¬ b = w.heap.size := by omega
  obtain ⟨i0', hi, hz0, hz1, hz2⟩ := info_parts infoTok
  have HI0 := Lib.hid hi
  have HZ0 := Lib.hid hz0
  have HZ1 := Lib.hid hz1
  have HZ2 := Lib.hid hz2
  clear hi hz0 hz1 hz2
  obtain ⟨mo, hmo⟩ : ∃ mo, (rOpen m t).2 = mo := ⟨_, rfl⟩
  have hos := rOpen_sz m t
  rw [hmo] at hos
  obtain ⟨ho1, ho2⟩ := hos
  have hcb := cntB_le mo.stack
  have c2 := h.c2
  have c3 := h.c3
  rw [hx] at c2
  have HSK : Hid ((rOpen m t).1 = false) := Lib.hid hsk
  have HMO := Lib.hid hmo
  have hk4 : Sz 4 m := by unfold Sz; omega
  have hre : rStep m t (!true && decide (li < t.line)) = rRest mo t ⟨#[]⟩ := by rw [rStep_eq, hsk, hmo, hx]; rfl
  rw [hre] at hOut ⊢
  have hlp : mo.stack.length + mo.out.length + cntB mo.stack + 1 ≤ 1000000000000 := by omega
  have hlK : cntB mo.stack ≤ mo.stack.length + 1 := by omega
  obtain ⟨m1, hm1⟩ : ∃ m1, mo = m1 := ⟨_, rfl⟩
  have hls : m1.stack.length + m1.out.length ≤ mo.stack.length + mo.out.length + cntB mo.stack + 1 := by rw [hm1]; omega
  clear hre
  subst hm1
  have hit := rItem_sz mo t
  obtain ⟨m2, hm2⟩ : ∃ m2, rItem mo t = m2 := ⟨_, rfl⟩
  rw [hm2] at hit
  obtain ⟨hi1, hi2⟩ := hit
  have hi2l : m2.out.length = mo.out.length := by rw [hi2]
  have hcn := cnt_le m2.stack
  have hs1 : Sz 1 mo := by unfold Sz; omega
  have hs2 : Sz 1 m2 := by unfold Sz; omega
  have hsp : m2.stack.length + m2.out.length + cnt m2.stack + 1 ≤ 1000000000000 := by omega
  have ho8 := hop8
  have ho9 := hop9
  have ho10 := hop
  have hrr : rRest mo t ⟨#[]⟩ = (some m2).map fun m => app1 m t := by unfold rRest; rw [ho8, ho9, ho10, hm2]; rfl
  rw [hrr] at hOut ⊢
  have hOb : ∀ m', some m2 = some m' → m'.out.length + 1 ≤ 1000000000000 := fun m' hm => by
    have := hOut (app1 m' t) (by rw [hm]; rfl)
    have e1 : (app1 m' t).out.length = m'.out.length + 1 := by show (m'.out ++ [t]).length = _; simp
    omega
  have HOB := Lib.hid hOb
  have HM2 := Lib.hid hm2
  clear hrr hOut hsk hmo hx hm2 hOb hi1 hi2 hi2l hcn hls
  go_enter Try.func15, Try.ntmps15
  go_wp2_with ((go_at_call 28; ((with_reducible refine (ropen_p h0 hk4 t).mono ?_); unfold OpR; rw [HSK.out, HMO.out]; rintro r w1 ⟨rfl, vs1, vo1, hS1, hF1⟩; have hT1 := TB.frm t0 hp0 hF1; have hP1 := (hp0.frm hF1).1; have hG1 := hf0.trans hF1; have c5 := hS1.c5; have c4 := hS1.c4; have c6 : w1.cell? ⟨b, 6, none⟩ = some (.int .i64 0) := hS1.c6; obtain ⟨a0, a1, a2, a3, a4, a5, a6⟩ := hT1.all)))
  go_quiet (fail)
  go_wp2_with ((go_at_call 30; (refine (ritem_p (hS1.same (only_drewN _ _)) hs1 t).mono ?_); rw [HM2.out]; rintro r w3 ⟨rfl, vs3, vo3, hS3, hF3⟩; have hFd := (Frm.keep (only_drewN _ _)).trans hF3; have hT3 := TB.frm hT1 hP1 hFd; have hP3 := (hP1.frm hFd).1; have hG3 := hG1.trans hFd; obtain ⟨d0, d1, d2, d3, d4, d5, d6⟩ := hT3.all; have hS4 := hS3; have hG4 := hG3; have hT4 := hT3; have hP4 := hP3; have hmz := HOB.out _ rfl; obtain ⟨oa, ca, hvo⟩ := hS4.olen; subst hvo; have y5 := hS4.fz 5; have y4 := hS4.fz 4; have y1 := hS4.fz 1; have k1 := hS4.c1; have k5 := hS4.c5; have k4 := hS4.c4; have hb4 := hS4.lt))
  have hS5 := hS4.past t.line
  have hsz5 : (pastW w3 b t.line).heap.size = w3.heap.size := past_sz _ _ _
  have HSZ := Lib.hid hsz5
  have hHO : (pastW w3 b t.line).ownsRow (b + 1) 33 7 (.slice oa m2.out.length ca) m2.out.length (m2.out.flatMap tokCells) := hS5.out
  clear hsz5
  go_region_law ((refine step_append_lies _ rfl (.tmp 79) (.tmp 81) 22 rfl (b + 1) 33 i0' (.agg #[.int .i64 0, .string ⟨#[]⟩, .string ⟨#[]⟩, .int .i64 0, .bool false, .int .i64 0, .int .i64 0]) 7 72 Try.underlying22 HI0.out HZ0.out HZ1.out HZ2.out rfl (by decide) (.slice oa m2.out.length ca) m2.out.length (m2.out.flatMap tokCells) ?e1 (World.ownsRow.alloc hHO _) ⟨w3.heap.size, 0, none⟩ 1 1 (tokCells t) ?e2 rfl (World.news_of_block (new_at _ HSZ.out)) (one_tok t) Nat.one_pos (by unfold maxLen; omega) (by omega) (by show b + 1 ≤ (Array.push _ _).size; rw [Array.size_push, HSZ.out]; omega) _ rfl ?_); (case e1 => simp [Act.eval]); (case e2 => simp [Act.eval]); (intro g cg w6 hown' hgrow hat hlt'; have hS6 := MS.grownO (hS5.same (((Only.refl _ _).alloc _).drew)) hgrow; have p1 := (blk_c (k := 1) hS6.1 rfl).1; have v1 := (blk_c (k := 1) hS6.1 rfl).2))
  all_goals
    have hTR := TR.snoc (t := t) hown'
    have hO6 : Only (KE b (.slice oa m2.out.length ca)) (pastW w3 b t.line) w6 := (((Only.refl _ _).alloc _).drew).trans (Only.grown hgrow (fun k hk => .inr hk))
    have HBL := Lib.hid (show ∀ g', (Value.slice (some ⟨g, 0, none⟩) (m2.out.length + 1) cg).ownBlock = some g' → (Value.slice oa m2.out.length ca).ownBlock = some g' ∨ (pastW w3 b t.line).heap.size ≤ g' from fun g' hg' => by
      have hgg : g = g' := Option.some.inj hg'
      rcases hat with e | e
      · exact .inl (hgg ▸ e)
      · right
        have e3 : g = (Array.push (pastW w3 b t.line).heap (.cells (tokA t) 33)).size := e
        rw [Array.size_push] at e3
        omega)
    clear hown' hgrow hHO hat
    go_wp2
    go_end0
    exact StpR.fin (R := some m2) (.inr ⟨rfl, rfl⟩) ((MS.put (k := 1) (F := F0) (F' := F0) (m := m2) (m' := app1 m2 t) hS6.1 rfl hS6.2 hTR).x ((hG4.trans (past_frm _ _ _ _ _)).trans ⟨(hO6.setCell (.inl rfl) _).wide (fun i hi => hi.elim .inl (fun e => .inr (.inr e))), fun _ hg => .inl hg, HBL.out⟩))
set_option maxRecDepth 100000 in
set_option maxHeartbeats 8000000 in
theorem rstep_fn8 (h : MS w b vs vo m li false F0) (hk : 4 * m.stack.length + 2 * m.out.length + 100 ≤ 1000000000000) (t : Tok) (hx : m.expects = false) (hsk : (rOpen m t).1 = false) (hlt : ¬ li < t.line) (hop : (t.op == 8) = true) (hOut : ∀ m', rStep m t (!false && decide (li < t.line)) = some m' → m'.out.length ≤ 1000000000000) : Calls Try.prog 15 #[.pointer (some ⟨b, 0, none⟩), tokV t] w (StpR w b vs vo t (rStep m t (!false && decide (li < t.line)))) := by
  have hbl := h.lt
  have h0 := h.same (Only.alloc (Only.refl (fun _ => False) _) (.cells (tokA t) 33))
  have t0 : TB (w.alloc (.cells (tokA t) 33)) w.heap.size t := new_block _ _
  have hp0 : Pr (w.alloc (.cells (tokA t) 33)) b vs vo w.heap.size := h.pr (Nat.le_refl _) (lt_of_block t0)
  have hf0 : Frm w b vs vo (w.alloc (.cells (tokA t) 33)) vs vo := Frm.keep (Only.alloc (Only.refl _ _) _)
  have hne : ¬ w.heap.size = b := by omega
  have hne' : ¬ b = w.heap.size := by omega
  obtain ⟨i0', hi, hz0, hz1, hz2⟩ := info_parts infoTok
  have HI0 := Lib.hid hi
  have HZ0 := Lib.hid hz0
  have HZ1 := Lib.hid hz1
  have HZ2 := Lib.hid hz2
  clear hi hz0 hz1 hz2
  obtain ⟨mo, hmo⟩ : ∃ mo, (rOpen m t).2 = mo := ⟨_, rfl⟩
  have hos := rOpen_sz m t
  rw [hmo] at hos
  obtain ⟨ho1, ho2⟩ := hos
  have hcb := cntB_le mo.stack
  have c2 := h.c2
  have c3 := h.c3
  rw [hx] at c2
  have HSK : Hid ((rOpen m t).1 = false) := Lib.hid hsk
  have HMO := Lib.hid hmo
  have hk4 : Sz 4 m := by unfold Sz; omega
  have hl1 : decide (li < t.line) = false := decide_eq_false hlt
  have hre : rStep m t (!false && decide (li < t.line)) = rRest mo t ⟨#[]⟩ := by rw [rStep_eq, hsk, hmo, hx, hl1]; rfl
  rw [hre] at hOut ⊢
  have hlp : mo.stack.length + mo.out.length + cntB mo.stack + 1 ≤ 1000000000000 := by omega
  have hlK : cntB mo.stack ≤ mo.stack.length + 1 := by omega
  obtain ⟨m1, hm1⟩ : ∃ m1, mo = m1 := ⟨_, rfl⟩
  have hls : m1.stack.length + m1.out.length ≤ mo.stack.length + mo.out.length + cntB mo.stack + 1 := by rw [hm1]; omega
  clear hre
  subst hm1
  have hit := rItem_sz mo t
  obtain ⟨m2, hm2⟩ : ∃ m2, rItem mo t = m2 := ⟨_, rfl⟩
  rw [hm2] at hit
  obtain ⟨hi1, hi2⟩ := hit
  have hi2l : m2.out.length = mo.out.length := by rw [hi2]
  have hcn := cnt_le m2.stack
  have hs1 : Sz 1 mo := by unfold Sz; omega
  have hs2 : Sz 1 m2 := by unfold Sz; omega
  have hsp : m2.stack.length + m2.out.length + cnt m2.stack + 1 ≤ 1000000000000 := by omega
  have hopv : t.op = 8 := by simpa using hop
  have ho8 : (t.op == 8) = true := by rw [hopv]; rfl
  have ho9 : (t.op == 9) = false := by rw [hopv]; rfl
  have ho10 : (t.op == 10) = false := by rw [hopv]; rfl
  have hrr : rRest mo t ⟨#[]⟩ = (rSpecials m2 t ⟨#[]⟩).map fun m => app1 m t := by unfold rRest; rw [ho8, ho9, hm2]; rfl
  rw [hrr] at hOut ⊢
  have hOb : ∀ m', rSpecials m2 t ⟨#[]⟩ = some m' → m'.out.length + 1 ≤ 1000000000000 := fun m' hm => by
    have := hOut (app1 m' t) (by rw [hm]; rfl)
    have e1 : (app1 m' t).out.length = m'.out.length + 1 := by show (m'.out ++ [t]).length = _; simp
    omega
  have HOB := Lib.hid hOb
  have HM2 := Lib.hid hm2
  clear hrr hOut hsk hmo hx hm2 hOb hi1 hi2 hi2l hcn hls hlt hop hopv
  go_enter Try.func15, Try.ntmps15
  go_wp2_with ((go_at_call 28; ((with_reducible refine (ropen_p h0 hk4 t).mono ?_); unfold OpR; rw [HSK.out, HMO.out]; rintro r w1 ⟨rfl, vs1, vo1, hS1, hF1⟩; have hT1 := TB.frm t0 hp0 hF1; have hP1 := (hp0.frm hF1).1; have hG1 := hf0.trans hF1; have c5 := hS1.c5; have c4 := hS1.c4; have c6 : w1.cell? ⟨b, 6, none⟩ = some (.int .i64 0) := hS1.c6; obtain ⟨a0, a1, a2, a3, a4, a5, a6⟩ := hT1.all)))
  go_quiet (fail)
  go_wp2_with (first | (go_at_call 30; (refine (ritem_p (hS1.same (only_drewN _ _)) hs1 t).mono ?_); rw [HM2.out]; rintro r w3 ⟨rfl, vs3, vo3, hS3, hF3⟩; have hFd := (Frm.keep (only_drewN _ _)).trans hF3; have hT3 := TB.frm hT1 hP1 hFd; have hP3 := (hP1.frm hFd).1; have hG3 := hG1.trans hFd; obtain ⟨d0, d1, d2, d3, d4, d5, d6⟩ := hT3.all) | (go_at_call 31; (refine (rspecials_p hS3 hsp t ⟨#[]⟩).mono ?_); rintro r w4 hRe; obtain ⟨rfl, mz, Fz, hmz, HZ, vs4, vo4, hS4, hF4⟩ := hRe.any HOB.out; have hT4 := TB.frm hT3 hP3 hF4; have hP4 := (hP3.frm hF4).1; have hG4 := hG3.trans hF4; obtain ⟨g0, g1, g2, g3, g4, g5, g6⟩ := hT4.all; obtain ⟨oa, ca, hvo⟩ := hS4.olen; subst hvo; have y5 := hS4.fz 5; have y4 := hS4.fz 4; have y1 := hS4.fz 1; have k1 := hS4.c1; have k5 := hS4.c5; have k4 := hS4.c4; have hb4 := hS4.lt))
  have hS5 := hS4.past t.line
  have hsz5 : (pastW w4 b t.line).heap.size = w4.heap.size := past_sz _ _ _
  have HSZ := Lib.hid hsz5
  have hHO : (pastW w4 b t.line).ownsRow (b + 1) 33 7 (.slice oa mz.out.length ca) mz.out.length (mz.out.flatMap tokCells) := hS5.out
  clear hsz5
  go_region_law ((refine step_append_lies _ rfl (.tmp 79) (.tmp 81) 22 rfl (b + 1) 33 i0' (.agg #[.int .i64 0, .string ⟨#[]⟩, .string ⟨#[]⟩, .int .i64 0, .bool false, .int .i64 0, .int .i64 0]) 7 72 Try.underlying22 HI0.out HZ0.out HZ1.out HZ2.out rfl (by decide) (.slice oa mz.out.length ca) mz.out.length (mz.out.flatMap tokCells) ?e1 (World.ownsRow.alloc hHO _) ⟨w4.heap.size, 0, none⟩ 1 1 (tokCells t) ?e2 rfl (World.news_of_block (new_at _ HSZ.out)) (one_tok t) Nat.one_pos (by unfold maxLen; omega) (by omega) (by show b + 1 ≤ (Array.push _ _).size; rw [Array.size_push, HSZ.out]; omega) _ rfl ?_); (case e1 => simp [Act.eval]); (case e2 => simp [Act.eval]); (intro g cg w6 hown' hgrow hat hlt'; have hS6 := MS.grownO (hS5.same (((Only.refl _ _).alloc _).drew)) hgrow; have p1 := (blk_c (k := 1) hS6.1 rfl).1; have v1 := (blk_c (k := 1) hS6.1 rfl).2))
  all_goals
    have hTR := TR.snoc (t := t) hown'
    have hO6 : Only (KE b (.slice oa mz.out.length ca)) (pastW w4 b t.line) w6 := (((Only.refl _ _).alloc _).drew).trans (Only.grown hgrow (fun k hk => .inr hk))
    have HBL := Lib.hid (show ∀ g', (Value.slice (some ⟨g, 0, none⟩) (mz.out.length + 1) cg).ownBlock = some g' → (Value.slice oa mz.out.length ca).ownBlock = some g' ∨ (pastW w4 b t.line).heap.size ≤ g' from fun g' hg' => by
      have hgg : g = g' := Option.some.inj hg'
      rcases hat with e | e
      · exact .inl (hgg ▸ e)
      · right
        have e3 : g = (Array.push (pastW w4 b t.line).heap (.cells (tokA t) 33)).size := e
        rw [Array.size_push] at e3
        omega)
    clear hown' hgrow hHO hat
    go_wp2
    go_end0
    exact StpR.fin HZ.out ((MS.put (k := 1) (F := Fz) (F' := Fz) (m := mz) (m' := app1 mz t) hS6.1 rfl hS6.2 hTR).x ((hG4.trans (past_frm _ _ _ _ _)).trans ⟨(hO6.setCell (.inl rfl) _).wide (fun i hi => hi.elim .inl (fun e => .inr (.inr e))), fun _ hg => .inl hg, HBL.out⟩))
set_option maxRecDepth 100000 in
set_option maxHeartbeats 8000000 in
theorem rstep_fn9 (h : MS w b vs vo m li false F0) (hk : 4 * m.stack.length + 2 * m.out.length + 100 ≤ 1000000000000) (t : Tok) (hx : m.expects = false) (hsk : (rOpen m t).1 = false) (hlt : ¬ li < t.line) (hop : (t.op == 9) = true) (hOut : ∀ m', rStep m t (!false && decide (li < t.line)) = some m' → m'.out.length ≤ 1000000000000) : Calls Try.prog 15 #[.pointer (some ⟨b, 0, none⟩), tokV t] w (StpR w b vs vo t (rStep m t (!false && decide (li < t.line)))) := by
  have hbl := h.lt
  have h0 := h.same (Only.alloc (Only.refl (fun _ => False) _) (.cells (tokA t) 33))
  have t0 : TB (w.alloc (.cells (tokA t) 33)) w.heap.size t := new_block _ _
  have hp0 : Pr (w.alloc (.cells (tokA t) 33)) b vs vo w.heap.size := h.pr (Nat.le_refl _) (lt_of_block t0)
  have hf0 : Frm w b vs vo (w.alloc (.cells (tokA t) 33)) vs vo := Frm.keep (Only.alloc (Only.refl _ _) _)
  have hne : ¬ w.heap.size = b := by omega
  have hne' : ¬ b = w.heap.size := by omega
  obtain ⟨i0', hi, hz0, hz1, hz2⟩ := info_parts infoTok
  have HI0 := Lib.hid hi
  have HZ0 := Lib.hid hz0
  have HZ1 := Lib.hid hz1
  have HZ2 := Lib.hid hz2
  clear hi hz0 hz1 hz2
  obtain ⟨mo, hmo⟩ : ∃ mo, (rOpen m t).2 = mo := ⟨_, rfl⟩
  have hos := rOpen_sz m t
  rw [hmo] at hos
  obtain ⟨ho1, ho2⟩ := hos
  have hcb := cntB_le mo.stack
  have c2 := h.c2
  have c3 := h.c3
  rw [hx] at c2
  have HSK : Hid ((rOpen m t).1 = false) := Lib.hid hsk
  have HMO := Lib.hid hmo
  have hk4 : Sz 4 m := by unfold Sz; omega
  have hl1 : decide (li < t.line) = false := decide_eq_false hlt
  have hre : rStep m t (!false && decide (li < t.line)) = rRest mo t ⟨#[]⟩ := by rw [rStep_eq, hsk, hmo, hx, hl1]; rfl
  rw [hre] at hOut ⊢
  have hlp : mo.stack.length + mo.out.length + cntB mo.stack + 1 ≤ 1000000000000 := by omega
  have hlK : cntB mo.stack ≤ mo.stack.length + 1 := by omega
  obtain ⟨m1, hm1⟩ : ∃ m1, mo = m1 := ⟨_, rfl⟩
  have hls : m1.stack.length + m1.out.length ≤ mo.stack.length + mo.out.length + cntB mo.stack + 1 := by rw [hm1]; omega
  clear hre
  subst hm1
  have hit := rItem_sz mo t
  obtain ⟨m2, hm2⟩ : ∃ m2, rItem mo t = m2 := ⟨_, rfl⟩
  rw [hm2] at hit
  obtain ⟨hi1, hi2⟩ := hit
  have hi2l : m2.out.length = mo.out.length := by rw [hi2]
  have hcn := cnt_le m2.stack
  have hs1 : Sz 1 mo := by unfold Sz; omega
  have hs2 : Sz 1 m2 := by unfold Sz; omega
  have hsp : m2.stack.length + m2.out.length + cnt m2.stack + 1 ≤ 1000000000000 := by omega
  have hopv : t.op = 9 := by simpa using hop
  have ho8 : (t.op == 8) = false := by rw [hopv]; rfl
  have ho9 : (t.op == 9) = true := by rw [hopv]; rfl
  have ho10 : (t.op == 10) = false := by rw [hopv]; rfl
  have hrr : rRest mo t ⟨#[]⟩ = (rWords m2 t).map fun m => app1 m t := by unfold rRest; rw [ho8, ho9, hm2]; rfl
  rw [hrr] at hOut ⊢
  have hOb : ∀ m', rWords m2 t = some m' → m'.out.length + 1 ≤ 1000000000000 := fun m' hm => by
    have := hOut (app1 m' t) (by rw [hm]; rfl)
    have e1 : (app1 m' t).out.length = m'.out.length + 1 := by show (m'.out ++ [t]).length = _; simp
    omega
  have HOB := Lib.hid hOb
  have HM2 := Lib.hid hm2
  clear hrr hOut hsk hmo hx hm2 hOb hi1 hi2 hi2l hcn hls hlt hop hopv
  go_enter Try.func15, Try.ntmps15
  go_wp2_with ((go_at_call 28; ((with_reducible refine (ropen_p h0 hk4 t).mono ?_); unfold OpR; rw [HSK.out, HMO.out]; rintro r w1 ⟨rfl, vs1, vo1, hS1, hF1⟩; have hT1 := TB.frm t0 hp0 hF1; have hP1 := (hp0.frm hF1).1; have hG1 := hf0.trans hF1; have c5 := hS1.c5; have c4 := hS1.c4; have c6 : w1.cell? ⟨b, 6, none⟩ = some (.int .i64 0) := hS1.c6; obtain ⟨a0, a1, a2, a3, a4, a5, a6⟩ := hT1.all)))
  go_quiet (fail)
  go_wp2_with (first | (go_at_call 30; (refine (ritem_p (hS1.same (only_drewN _ _)) hs1 t).mono ?_); rw [HM2.out]; rintro r w3 ⟨rfl, vs3, vo3, hS3, hF3⟩; have hFd := (Frm.keep (only_drewN _ _)).trans hF3; have hT3 := TB.frm hT1 hP1 hFd; have hP3 := (hP1.frm hFd).1; have hG3 := hG1.trans hFd; obtain ⟨d0, d1, d2, d3, d4, d5, d6⟩ := hT3.all) | (go_at_call 32; (refine (rwords_p hS3 hs2 t ho9).mono ?_); rintro r w4 hRe; obtain ⟨rfl, mz, Fz, hmz, HZ, vs4, vo4, hS4, hF4⟩ := hRe.any HOB.out; have hT4 := TB.frm hT3 hP3 hF4; have hP4 := (hP3.frm hF4).1; have hG4 := hG3.trans hF4; obtain ⟨g0, g1, g2, g3, g4, g5, g6⟩ := hT4.all; obtain ⟨oa, ca, hvo⟩ := hS4.olen; subst hvo; have y5 := hS4.fz 5; have y4 := hS4.fz 4; have y1 := hS4.fz 1; have k1 := hS4.c1; have k5 := hS4.c5; have k4 := hS4.c4; have hb4 := hS4.lt))
  have hS5 := hS4.past t.line
  have hsz5 : (pastW w4 b t.line).heap.size = w4.heap.size := past_sz _ _ _
  have HSZ := Lib.hid hsz5
  have hHO : (pastW w4 b t.line).ownsRow (b + 1) 33 7 (.slice oa mz.out.length ca) mz.out.length (mz.out.flatMap tokCells) := hS5.out
  clear hsz5
  go_region_law ((refine step_append_lies _ rfl (.tmp 79) (.tmp 81) 22 rfl (b + 1) 33 i0' (.agg #[.int .i64 0, .string ⟨#[]⟩, .string ⟨#[]⟩, .int .i64 0, .bool false, .int .i64 0, .int .i64 0]) 7 72 Try.underlying22 HI0.out HZ0.out HZ1.out HZ2.out rfl (by decide) (.slice oa mz.out.length ca) mz.out.length (mz.out.flatMap tokCells) ?e1 (World.ownsRow.alloc hHO _) ⟨w4.heap.size, 0, none⟩ 1 1 (tokCells t) ?e2 rfl (World.news_of_block (new_at _ HSZ.out)) (one_tok t) Nat.one_pos (by unfold maxLen; omega) (by omega) (by show b + 1 ≤ (Array.push _ _).size; rw [Array.size_push, HSZ.out]; omega) _ rfl ?_); (case e1 => simp [Act.eval]); (case e2 => simp [Act.eval]); (intro g cg w6 hown' hgrow hat hlt'; have hS6 := MS.grownO (hS5.same (((Only.refl _ _).alloc _).drew)) hgrow; have p1 := (blk_c (k := 1) hS6.1 rfl).1; have v1 := (blk_c (k := 1) hS6.1 rfl).2))
  all_goals
    have hTR := TR.snoc (t := t) hown'
    have hO6 : Only (KE b (.slice oa mz.out.length ca)) (pastW w4 b t.line) w6 := (((Only.refl _ _).alloc _).drew).trans (Only.grown hgrow (fun k hk => .inr hk))
    have HBL := Lib.hid (show ∀ g', (Value.slice (some ⟨g, 0, none⟩) (mz.out.length + 1) cg).ownBlock = some g' → (Value.slice oa mz.out.length ca).ownBlock = some g' ∨ (pastW w4 b t.line).heap.size ≤ g' from fun g' hg' => by
      have hgg : g = g' := Option.some.inj hg'
      rcases hat with e | e
      · exact .inl (hgg ▸ e)
      · right
        have e3 : g = (Array.push (pastW w4 b t.line).heap (.cells (tokA t) 33)).size := e
        rw [Array.size_push] at e3
        omega)
    clear hown' hgrow hHO hat
    go_wp2
    go_end0
    exact StpR.fin HZ.out ((MS.put (k := 1) (F := Fz) (F' := Fz) (m := mz) (m' := app1 mz t) hS6.1 rfl hS6.2 hTR).x ((hG4.trans (past_frm _ _ _ _ _)).trans ⟨(hO6.setCell (.inl rfl) _).wide (fun i hi => hi.elim .inl (fun e => .inr (.inr e))), fun _ hg => .inl hg, HBL.out⟩))
set_option maxRecDepth 100000 in
set_option maxHeartbeats 8000000 in
theorem rstep_fne (h : MS w b vs vo m li false F0) (hk : 4 * m.stack.length + 2 * m.out.length + 100 ≤ 1000000000000) (t : Tok) (hx : m.expects = false) (hsk : (rOpen m t).1 = false) (hlt : ¬ li < t.line) (hop : (t.op == 10) = true) (htx : tx t.text [61] = true) (hOut : ∀ m', rStep m t (!false && decide (li < t.line)) = some m' → m'.out.length ≤ 1000000000000) : Calls Try.prog 15 #[.pointer (some ⟨b, 0, none⟩), tokV t] w (StpR w b vs vo t (rStep m t (!false && decide (li < t.line)))) := by
  have hbl := h.lt
  have h0 := h.same (Only.alloc (Only.refl (fun _ => False) _) (.cells (tokA t) 33))
  have t0 : TB (w.alloc (.cells (tokA t) 33)) w.heap.size t := new_block _ _
  have hp0 : Pr (w.alloc (.cells (tokA t) 33)) b vs vo w.heap.size := h.pr (Nat.le_refl _) (lt_of_block t0)
  have hf0 : Frm w b vs vo (w.alloc (.cells (tokA t) 33)) vs vo := Frm.keep (Only.alloc (Only.refl _ _) _)
  have hne : ¬ w.heap.size = b := by omega
  have hne' : ¬ b = w.heap.size := by omega
  obtain ⟨i0', hi, hz0, hz1, hz2⟩ := info_parts infoTok
  have HI0 := Lib.hid hi
  have HZ0 := Lib.hid hz0
  have HZ1 := Lib.hid hz1
  have HZ2 := Lib.hid hz2
  clear hi hz0 hz1 hz2
  obtain ⟨mo, hmo⟩ : ∃ mo, (rOpen m t).2 = mo := ⟨_, rfl⟩
  have hos := rOpen_sz m t
  rw [hmo] at hos
  obtain ⟨ho1, ho2⟩ := hos
  have hcb := cntB_le mo.stack
  have c2 := h.c2
  have c3 := h.c3
  rw [hx] at c2
  have HSK : Hid ((rOpen m t).1 = false) := Lib.hid hsk
  have HMO := Lib.hid hmo
  have hk4 : Sz 4 m := by unfold Sz; omega
  have hl1 : decide (li < t.line) = false := decide_eq_false hlt
  have hre : rStep m t (!false && decide (li < t.line)) = rRest mo t ⟨#[]⟩ := by rw [rStep_eq, hsk, hmo, hx, hl1]; rfl
  rw [hre] at hOut ⊢
  have hlp : mo.stack.length + mo.out.length + cntB mo.stack + 1 ≤ 1000000000000 := by omega
  have hlK : cntB mo.stack ≤ mo.stack.length + 1 := by omega
  obtain ⟨m1, hm1⟩ : ∃ m1, mo = m1 := ⟨_, rfl⟩
  have hls : m1.stack.length + m1.out.length ≤ mo.stack.length + mo.out.length + cntB mo.stack + 1 := by rw [hm1]; omega
  clear hre
  subst hm1
  have hit := rItem_sz mo t
  obtain ⟨m2, hm2⟩ : ∃ m2, rItem mo t = m2 := ⟨_, rfl⟩
  rw [hm2] at hit
  obtain ⟨hi1, hi2⟩ := hit
  have hi2l : m2.out.length = mo.out.length := by rw [hi2]
  have hcn := cnt_le m2.stack
  have hs1 : Sz 1 mo := by unfold Sz; omega
  have hs2 : Sz 1 m2 := by unfold Sz; omega
  have hsp : m2.stack.length + m2.out.length + cnt m2.stack + 1 ≤ 1000000000000 := by omega
  obtain ⟨mz, hmk⟩ : ∃ mz, rMark m2 true = mz := ⟨_, rfl⟩
  have HMK := Lib.hid hmk
  have hopv : t.op = 10 := by simpa using hop
  have ho8 : (t.op == 8) = false := by rw [hopv]; rfl
  have ho9 : (t.op == 9) = false := by rw [hopv]; rfl
  have ho10 : (t.op == 10) = true := by rw [hopv]; rfl
  have htl : (t.text.toList == [61]) = true := by rw [Lib.toList_data]; exact htx
  have hrr : rRest mo t ⟨#[]⟩ = (some mz).map fun m => app1 m t := by unfold rRest; rw [ho8, ho9, ho10, htx, hm2, hmk]; rfl
  rw [hrr] at hOut ⊢
  have hOb : ∀ m', some mz = some m' → m'.out.length + 1 ≤ 1000000000000 := fun m' hm => by
    have := hOut (app1 m' t) (by rw [hm]; rfl)
    have e1 : (app1 m' t).out.length = m'.out.length + 1 := by show (m'.out ++ [t]).length = _; simp
    omega
  have HOB := Lib.hid hOb
  have HM2 := Lib.hid hm2
  clear hrr hOut hsk hmo hx hm2 hOb hi1 hi2 hi2l hcn hls hlt htx hmk hop hopv
  go_enter Try.func15, Try.ntmps15
  go_wp2_with ((go_at_call 28; ((with_reducible refine (ropen_p h0 hk4 t).mono ?_); unfold OpR; rw [HSK.out, HMO.out]; rintro r w1 ⟨rfl, vs1, vo1, hS1, hF1⟩; have hT1 := TB.frm t0 hp0 hF1; have hP1 := (hp0.frm hF1).1; have hG1 := hf0.trans hF1; have c5 := hS1.c5; have c4 := hS1.c4; have c6 : w1.cell? ⟨b, 6, none⟩ = some (.int .i64 0) := hS1.c6; obtain ⟨a0, a1, a2, a3, a4, a5, a6⟩ := hT1.all)))
  go_quiet (fail)
  go_wp2_with (first | (go_at_call 30; (refine (ritem_p (hS1.same (only_drewN _ _)) hs1 t).mono ?_); rw [HM2.out]; rintro r w3 ⟨rfl, vs3, vo3, hS3, hF3⟩; have hFd := (Frm.keep (only_drewN _ _)).trans hF3; have hT3 := TB.frm hT1 hP1 hFd; have hP3 := (hP1.frm hFd).1; have hG3 := hG1.trans hFd; obtain ⟨d0, d1, d2, d3, d4, d5, d6⟩ := hT3.all) | (go_at_call 33; (refine (rmark_p hS3 (hs2.less (Nat.zero_le 1)).rm true).mono ?_); rw [HMK.out]; rintro r w4 ⟨rfl, vs4, vo4, hS4, hF4⟩; have hmz := HOB.out _ rfl; have hT4 := TB.frm hT3 hP3 hF4; have hP4 := (hP3.frm hF4).1; have hG4 := hG3.trans hF4; obtain ⟨g0, g1, g2, g3, g4, g5, g6⟩ := hT4.all; obtain ⟨oa, ca, hvo⟩ := hS4.olen; subst hvo; have y5 := hS4.fz 5; have y4 := hS4.fz 4; have y1 := hS4.fz 1; have k1 := hS4.c1; have k5 := hS4.c5; have k4 := hS4.c4; have hb4 := hS4.lt))
  have hS5 := hS4.past t.line
  have hsz5 : (pastW w4 b t.line).heap.size = w4.heap.size := past_sz _ _ _
  have HSZ := Lib.hid hsz5
  have hHO : (pastW w4 b t.line).ownsRow (b + 1) 33 7 (.slice oa mz.out.length ca) mz.out.length (mz.out.flatMap tokCells) := hS5.out
  clear hsz5
  go_region_law ((refine step_append_lies _ rfl (.tmp 79) (.tmp 81) 22 rfl (b + 1) 33 i0' (.agg #[.int .i64 0, .string ⟨#[]⟩, .string ⟨#[]⟩, .int .i64 0, .bool false, .int .i64 0, .int .i64 0]) 7 72 Try.underlying22 HI0.out HZ0.out HZ1.out HZ2.out rfl (by decide) (.slice oa mz.out.length ca) mz.out.length (mz.out.flatMap tokCells) ?e1 (World.ownsRow.alloc hHO _) ⟨w4.heap.size, 0, none⟩ 1 1 (tokCells t) ?e2 rfl (World.news_of_block (new_at _ HSZ.out)) (one_tok t) Nat.one_pos (by unfold maxLen; omega) (by omega) (by show b + 1 ≤ (Array.push _ _).size; rw [Array.size_push, HSZ.out]; omega) _ rfl ?_); (case e1 => simp [Act.eval]); (case e2 => simp [Act.eval]); (intro g cg w6 hown' hgrow hat hlt'; have hS6 := MS.grownO (hS5.same (((Only.refl _ _).alloc _).drew)) hgrow; have p1 := (blk_c (k := 1) hS6.1 rfl).1; have v1 := (blk_c (k := 1) hS6.1 rfl).2))
  all_goals
    have hTR := TR.snoc (t := t) hown'
    have hO6 : Only (KE b (.slice oa mz.out.length ca)) (pastW w4 b t.line) w6 := (((Only.refl _ _).alloc _).drew).trans (Only.grown hgrow (fun k hk => .inr hk))
    have HBL := Lib.hid (show ∀ g', (Value.slice (some ⟨g, 0, none⟩) (mz.out.length + 1) cg).ownBlock = some g' → (Value.slice oa mz.out.length ca).ownBlock = some g' ∨ (pastW w4 b t.line).heap.size ≤ g' from fun g' hg' => by
      have hgg : g = g' := Option.some.inj hg'
      rcases hat with e | e
      · exact .inl (hgg ▸ e)
      · right
        have e3 : g = (Array.push (pastW w4 b t.line).heap (.cells (tokA t) 33)).size := e
        rw [Array.size_push] at e3
        omega)
    clear hown' hgrow hHO hat
    go_wp2
    go_end0
    exact StpR.fin (R := some mz) (.inr ⟨rfl, rfl⟩) ((MS.put (k := 1) (F := F0) (F' := F0) (m := mz) (m' := app1 mz t) hS6.1 rfl hS6.2 hTR).x ((hG4.trans (past_frm _ _ _ _ _)).trans ⟨(hO6.setCell (.inl rfl) _).wide (fun i hi => hi.elim .inl (fun e => .inr (.inr e))), fun _ hg => .inl hg, HBL.out⟩))
set_option maxRecDepth 100000 in
set_option maxHeartbeats 8000000 in
theorem rstep_fny (h : MS w b vs vo m li false F0) (hk : 4 * m.stack.length + 2 * m.out.length + 100 ≤ 1000000000000) (t : Tok) (hx : m.expects = false) (hsk : (rOpen m t).1 = false) (hlt : ¬ li < t.line) (hop : (t.op == 10) = true) (htx : tx t.text [61] = false) (hOut : ∀ m', rStep m t (!false && decide (li < t.line)) = some m' → m'.out.length ≤ 1000000000000) : Calls Try.prog 15 #[.pointer (some ⟨b, 0, none⟩), tokV t] w (StpR w b vs vo t (rStep m t (!false && decide (li < t.line)))) := by
  have hbl := h.lt
  have h0 := h.same (Only.alloc (Only.refl (fun _ => False) _) (.cells (tokA t) 33))
  have t0 : TB (w.alloc (.cells (tokA t) 33)) w.heap.size t := new_block _ _
  have hp0 : Pr (w.alloc (.cells (tokA t) 33)) b vs vo w.heap.size := h.pr (Nat.le_refl _) (lt_of_block t0)
  have hf0 : Frm w b vs vo (w.alloc (.cells (tokA t) 33)) vs vo := Frm.keep (Only.alloc (Only.refl _ _) _)
  have hne : ¬ w.heap.size = b := by omega
  have hne' : ¬ b = w.heap.size := by omega
  obtain ⟨i0', hi, hz0, hz1, hz2⟩ := info_parts infoTok
  have HI0 := Lib.hid hi
  have HZ0 := Lib.hid hz0
  have HZ1 := Lib.hid hz1
  have HZ2 := Lib.hid hz2
  clear hi hz0 hz1 hz2
  obtain ⟨mo, hmo⟩ : ∃ mo, (rOpen m t).2 = mo := ⟨_, rfl⟩
  have hos := rOpen_sz m t
  rw [hmo] at hos
  obtain ⟨ho1, ho2⟩ := hos
  have hcb := cntB_le mo.stack
  have c2 := h.c2
  have c3 := h.c3
  rw [hx] at c2
  have HSK : Hid ((rOpen m t).1 = false) := Lib.hid hsk
  have HMO := Lib.hid hmo
  have hk4 : Sz 4 m := by unfold Sz; omega
  have hl1 : decide (li < t.line) = false := decide_eq_false hlt
  have hre : rStep m t (!false && decide (li < t.line)) = rRest mo t ⟨#[]⟩ := by rw [rStep_eq, hsk, hmo, hx, hl1]; rfl
  rw [hre] at hOut ⊢
  have hlp : mo.stack.length + mo.out.length + cntB mo.stack + 1 ≤ 1000000000000 := by omega
  have hlK : cntB mo.stack ≤ mo.stack.length + 1 := by omega
  obtain ⟨m1, hm1⟩ : ∃ m1, mo = m1 := ⟨_, rfl⟩
  have hls : m1.stack.length + m1.out.length ≤ mo.stack.length + mo.out.length + cntB mo.stack + 1 := by rw [hm1]; omega
  clear hre
  subst hm1
  have hit := rItem_sz mo t
  obtain ⟨m2, hm2⟩ : ∃ m2, rItem mo t = m2 := ⟨_, rfl⟩
  rw [hm2] at hit
  obtain ⟨hi1, hi2⟩ := hit
  have hi2l : m2.out.length = mo.out.length := by rw [hi2]
  have hcn := cnt_le m2.stack
  have hs1 : Sz 1 mo := by unfold Sz; omega
  have hs2 : Sz 1 m2 := by unfold Sz; omega
  have hsp : m2.stack.length + m2.out.length + cnt m2.stack + 1 ≤ 1000000000000 := by omega
  have hopv : t.op = 10 := by simpa using hop
  have ho8 : (t.op == 8) = false := by rw [hopv]; rfl
  have ho9 : (t.op == 9) = false := by rw [hopv]; rfl
  have ho10 : (t.op == 10) = true := by rw [hopv]; rfl
  have htl : (t.text.toList == [61]) = false := by rw [Lib.toList_data]; exact htx
  have hrr : rRest mo t ⟨#[]⟩ = (some m2).map fun m => app1 m t := by unfold rRest; rw [ho8, ho9, ho10, htx, hm2]; rfl
  rw [hrr] at hOut ⊢
  have hOb : ∀ m', some m2 = some m' → m'.out.length + 1 ≤ 1000000000000 := fun m' hm => by
    have := hOut (app1 m' t) (by rw [hm]; rfl)
    have e1 : (app1 m' t).out.length = m'.out.length + 1 := by show (m'.out ++ [t]).length = _; simp
    omega
  have HOB := Lib.hid hOb
  have HM2 := Lib.hid hm2
  clear hrr hOut hsk hmo hx hm2 hOb hi1 hi2 hi2l hcn hls hlt htx hop hopv
  go_enter Try.func15, Try.ntmps15
  go_wp2_with ((go_at_call 28; ((with_reducible refine (ropen_p h0 hk4 t).mono ?_); unfold OpR; rw [HSK.out, HMO.out]; rintro r w1 ⟨rfl, vs1, vo1, hS1, hF1⟩; have hT1 := TB.frm t0 hp0 hF1; have hP1 := (hp0.frm hF1).1; have hG1 := hf0.trans hF1; have c5 := hS1.c5; have c4 := hS1.c4; have c6 : w1.cell? ⟨b, 6, none⟩ = some (.int .i64 0) := hS1.c6; obtain ⟨a0, a1, a2, a3, a4, a5, a6⟩ := hT1.all)))
  go_quiet (fail)
  go_wp2_with ((go_at_call 30; (refine (ritem_p (hS1.same (only_drewN _ _)) hs1 t).mono ?_); rw [HM2.out]; rintro r w3 ⟨rfl, vs3, vo3, hS3, hF3⟩; have hFd := (Frm.keep (only_drewN _ _)).trans hF3; have hT3 := TB.frm hT1 hP1 hFd; have hP3 := (hP1.frm hFd).1; have hG3 := hG1.trans hFd; obtain ⟨d0, d1, d2, d3, d4, d5, d6⟩ := hT3.all; have hS4 := hS3; have hG4 := hG3; have hT4 := hT3; have hP4 := hP3; have hmz := HOB.out _ rfl; obtain ⟨oa, ca, hvo⟩ := hS4.olen; subst hvo; have y5 := hS4.fz 5; have y4 := hS4.fz 4; have y1 := hS4.fz 1; have k1 := hS4.c1; have k5 := hS4.c5; have k4 := hS4.c4; have hb4 := hS4.lt))
  have hS5 := hS4.past t.line
  have hsz5 : (pastW w3 b t.line).heap.size = w3.heap.size := past_sz _ _ _
  have HSZ := Lib.hid hsz5
  have hHO : (pastW w3 b t.line).ownsRow (b + 1) 33 7 (.slice oa m2.out.length ca) m2.out.length (m2.out.flatMap tokCells) := hS5.out
  clear hsz5
  go_region_law ((refine step_append_lies _ rfl (.tmp 79) (.tmp 81) 22 rfl (b + 1) 33 i0' (.agg #[.int .i64 0, .string ⟨#[]⟩, .string ⟨#[]⟩, .int .i64 0, .bool false, .int .i64 0, .int .i64 0]) 7 72 Try.underlying22 HI0.out HZ0.out HZ1.out HZ2.out rfl (by decide) (.slice oa m2.out.length ca) m2.out.length (m2.out.flatMap tokCells) ?e1 (World.ownsRow.alloc hHO _) ⟨w3.heap.size, 0, none⟩ 1 1 (tokCells t) ?e2 rfl (World.news_of_block (new_at _ HSZ.out)) (one_tok t) Nat.one_pos (by unfold maxLen; omega) (by omega) (by show b + 1 ≤ (Array.push _ _).size; rw [Array.size_push, HSZ.out]; omega) _ rfl ?_); (case e1 => simp [Act.eval]); (case e2 => simp [Act.eval]); (intro g cg w6 hown' hgrow hat hlt'; have hS6 := MS.grownO (hS5.same (((Only.refl _ _).alloc _).drew)) hgrow; have p1 := (blk_c (k := 1) hS6.1 rfl).1; have v1 := (blk_c (k := 1) hS6.1 rfl).2))
  all_goals
    have hTR := TR.snoc (t := t) hown'
    have hO6 : Only (KE b (.slice oa m2.out.length ca)) (pastW w3 b t.line) w6 := (((Only.refl _ _).alloc _).drew).trans (Only.grown hgrow (fun k hk => .inr hk))
    have HBL := Lib.hid (show ∀ g', (Value.slice (some ⟨g, 0, none⟩) (m2.out.length + 1) cg).ownBlock = some g' → (Value.slice oa m2.out.length ca).ownBlock = some g' ∨ (pastW w3 b t.line).heap.size ≤ g' from fun g' hg' => by
      have hgg : g = g' := Option.some.inj hg'
      rcases hat with e | e
      · exact .inl (hgg ▸ e)
      · right
        have e3 : g = (Array.push (pastW w3 b t.line).heap (.cells (tokA t) 33)).size := e
        rw [Array.size_push] at e3
        omega)
    clear hown' hgrow hHO hat
    go_wp2
    go_end0
    exact StpR.fin (R := some m2) (.inr ⟨rfl, rfl⟩) ((MS.put (k := 1) (F := F0) (F' := F0) (m := m2) (m' := app1 m2 t) hS6.1 rfl hS6.2 hTR).x ((hG4.trans (past_frm _ _ _ _ _)).trans ⟨(hO6.setCell (.inl rfl) _).wide (fun i hi => hi.elim .inl (fun e => .inr (.inr e))), fun _ hg => .inl hg, HBL.out⟩))
set_option maxRecDepth 100000 in
set_option maxHeartbeats 8000000 in
theorem rstep_fnx (h : MS w b vs vo m li false F0) (hk : 4 * m.stack.length + 2 * m.out.length + 100 ≤ 1000000000000) (t : Tok) (hx : m.expects = false) (hsk : (rOpen m t).1 = false) (hlt : ¬ li < t.line) (hop8 : (t.op == 8) = false) (hop9 : (t.op == 9) = false) (hop : (t.op == 10) = false) (hOut : ∀ m', rStep m t (!false && decide (li < t.line)) = some m' → m'.out.length ≤ 1000000000000) : Calls Try.prog 15 #[.pointer (some ⟨b, 0, none⟩), tokV t] w (StpR w b vs vo t (rStep m t (!false && decide (li < t.line)))) := by
  have hbl := h.lt
  have h0 := h.same (Only.alloc (Only.refl (fun _ => False) _) (.cells (tokA t) 33))
  have t0 : TB (w.alloc (.cells (tokA t) 33)) w.heap.size t := new_block _ _
  have hp0 : Pr (w.alloc (.cells (tokA t) 33)) b vs vo w.heap.size := h.pr (Nat.le_refl _) (lt_of_block t0)
  have hf0 : Frm w b vs vo (w.alloc (.cells (tokA t) 33)) vs vo := Frm.keep (Only.alloc (Only.refl _ _) _)
  have hne : ¬ w.heap.size = b := by omega
  have hne' : ¬ b = w.heap.size := by omega
  obtain ⟨i0', hi, hz0, hz1, hz2⟩ := info_parts infoTok
  have HI0 := Lib.hid hi
  have HZ0 := Lib.hid hz0
  have HZ1 := Lib.hid hz1
  have HZ2 := Lib.hid hz2
  clear hi hz0 hz1 hz2
  obtain ⟨mo, hmo⟩ : ∃ mo, (rOpen m t).2 = mo := ⟨_, rfl⟩
  have hos := rOpen_sz m t
  rw [hmo] at hos
  obtain ⟨ho1, ho2⟩ := hos
  have hcb := cntB_le mo.stack
  have c2 := h.c2
  have c3 := h.c3
  rw [hx] at c2
  have HSK : Hid ((rOpen m t).1 = false) := Lib.hid hsk
  have HMO := Lib.hid hmo
  have hk4 : Sz 4 m := by unfold Sz; omega
  have hl1 : decide (li < t.line) = false := decide_eq_false hlt
  have hre : rStep m t (!false && decide (li < t.line)) = rRest mo t ⟨#[]⟩ := by rw [rStep_eq, hsk, hmo, hx, hl1]; rfl
  rw [hre] at hOut ⊢
  have hlp : mo.stack.length + mo.out.length + cntB mo.stack + 1 ≤ 1000000000000 := by omega
  have hlK : cntB mo.stack ≤ mo.stack.length + 1 := by omega
  obtain ⟨m1, hm1⟩ : ∃ m1, mo = m1 := ⟨_, rfl⟩
  have hls : m1.stack.length + m1.out.length ≤ mo.stack.length + mo.out.length + cntB mo.stack + 1 := by rw [hm1]; omega
  clear hre
  subst hm1
  have hit := rItem_sz mo t
  obtain ⟨m2, hm2⟩ : ∃ m2, rItem mo t = m2 := ⟨_, rfl⟩
  rw [hm2] at hit
  obtain ⟨hi1, hi2⟩ := hit
  have hi2l : m2.out.length = mo.out.length := by rw [hi2]
  have hcn := cnt_le m2.stack
  have hs1 : Sz 1 mo := by unfold Sz; omega
  have hs2 : Sz 1 m2 := by unfold Sz; omega
  have hsp : m2.stack.length + m2.out.length + cnt m2.stack + 1 ≤ 1000000000000 := by omega
  have ho8 := hop8
  have ho9 := hop9
  have ho10 := hop
  have hrr : rRest mo t ⟨#[]⟩ = (some m2).map fun m => app1 m t := by unfold rRest; rw [ho8, ho9, ho10, hm2]; rfl
  rw [hrr] at hOut ⊢
  have hOb : ∀ m', some m2 = some m' → m'.out.length + 1 ≤ 1000000000000 := fun m' hm => by
    have := hOut (app1 m' t) (by rw [hm]; rfl)
    have e1 : (app1 m' t).out.length = m'.out.length + 1 := by show (m'.out ++ [t]).length = _; simp
    omega
  have HOB := Lib.hid hOb
  have HM2 := Lib.hid hm2
  clear hrr hOut hsk hmo hx hm2 hOb hi1 hi2 hi2l hcn hls hlt
  go_enter Try.func15, Try.ntmps15
  go_wp2_with ((go_at_call 28; ((with_reducible refine (ropen_p h0 hk4 t).mono ?_); unfold OpR; rw [HSK.out, HMO.out]; rintro r w1 ⟨rfl, vs1, vo1, hS1, hF1⟩; have hT1 := TB.frm t0 hp0 hF1; have hP1 := (hp0.frm hF1).1; have hG1 := hf0.trans hF1; have c5 := hS1.c5; have c4 := hS1.c4; have c6 : w1.cell? ⟨b, 6, none⟩ = some (.int .i64 0) := hS1.c6; obtain ⟨a0, a1, a2, a3, a4, a5, a6⟩ := hT1.all)))
  go_quiet (fail)
  go_wp2_with ((go_at_call 30; (refine (ritem_p (hS1.same (only_drewN _ _)) hs1 t).mono ?_); rw [HM2.out]; rintro r w3 ⟨rfl, vs3, vo3, hS3, hF3⟩; have hFd := (Frm.keep (only_drewN _ _)).trans hF3; have hT3 := TB.frm hT1 hP1 hFd; have hP3 := (hP1.frm hFd).1; have hG3 := hG1.trans hFd; obtain ⟨d0, d1, d2, d3, d4, d5, d6⟩ := hT3.all; have hS4 := hS3; have hG4 := hG3; have hT4 := hT3; have hP4 := hP3; have hmz := HOB.out _ rfl; obtain ⟨oa, ca, hvo⟩ := hS4.olen; subst hvo; have y5 := hS4.fz 5; have y4 := hS4.fz 4; have y1 := hS4.fz 1; have k1 := hS4.c1; have k5 := hS4.c5; have k4 := hS4.c4; have hb4 := hS4.lt))
  have hS5 := hS4.past t.line
  have hsz5 : (pastW w3 b t.line).heap.size = w3.heap.size := past_sz _ _ _
  have HSZ := Lib.hid hsz5
  have hHO : (pastW w3 b t.line).ownsRow (b + 1) 33 7 (.slice oa m2.out.length ca) m2.out.length (m2.out.flatMap tokCells) := hS5.out
  clear hsz5
  go_region_law ((refine step_append_lies _ rfl (.tmp 79) (.tmp 81) 22 rfl (b + 1) 33 i0' (.agg #[.int .i64 0, .string ⟨#[]⟩, .string ⟨#[]⟩, .int .i64 0, .bool false, .int .i64 0, .int .i64 0]) 7 72 Try.underlying22 HI0.out HZ0.out HZ1.out HZ2.out rfl (by decide) (.slice oa m2.out.length ca) m2.out.length (m2.out.flatMap tokCells) ?e1 (World.ownsRow.alloc hHO _) ⟨w3.heap.size, 0, none⟩ 1 1 (tokCells t) ?e2 rfl (World.news_of_block (new_at _ HSZ.out)) (one_tok t) Nat.one_pos (by unfold maxLen; omega) (by omega) (by show b + 1 ≤ (Array.push _ _).size; rw [Array.size_push, HSZ.out]; omega) _ rfl ?_); (case e1 => simp [Act.eval]); (case e2 => simp [Act.eval]); (intro g cg w6 hown' hgrow hat hlt'; have hS6 := MS.grownO (hS5.same (((Only.refl _ _).alloc _).drew)) hgrow; have p1 := (blk_c (k := 1) hS6.1 rfl).1; have v1 := (blk_c (k := 1) hS6.1 rfl).2))
  all_goals
    have hTR := TR.snoc (t := t) hown'
    have hO6 : Only (KE b (.slice oa m2.out.length ca)) (pastW w3 b t.line) w6 := (((Only.refl _ _).alloc _).drew).trans (Only.grown hgrow (fun k hk => .inr hk))
    have HBL := Lib.hid (show ∀ g', (Value.slice (some ⟨g, 0, none⟩) (m2.out.length + 1) cg).ownBlock = some g' → (Value.slice oa m2.out.length ca).ownBlock = some g' ∨ (pastW w3 b t.line).heap.size ≤ g' from fun g' hg' => by
      have hgg : g = g' := Option.some.inj hg'
      rcases hat with e | e
      · exact .inl (hgg ▸ e)
      · right
        have e3 : g = (Array.push (pastW w3 b t.line).heap (.cells (tokA t) 33)).size := e
        rw [Array.size_push] at e3
        omega)
    clear hown' hgrow hHO hat
    go_wp2
    go_end0
    exact StpR.fin (R := some m2) (.inr ⟨rfl, rfl⟩) ((MS.put (k := 1) (F := F0) (F' := F0) (m := m2) (m' := app1 m2 t) hS6.1 rfl hS6.2 hTR).x ((hG4.trans (past_frm _ _ _ _ _)).trans ⟨(hO6.setCell (.inl rfl) _).wide (fun i hi => hi.elim .inl (fun e => .inr (.inr e))), fun _ hg => .inl hg, HBL.out⟩))
end
end Go.Proofs.Ythblchafjmgmbaa
namespace Go.Proofs.Ythblchafjmgmbaa
open Go.RowKit Go.Maps
section
variable {w w' : World} {b : Nat} {vs vo : Value} {m : RM} {li : Int} {fi : Bool}
set_option maxRecDepth 100000 in
set_option maxHeartbeats 8000000 in
theorem rstep_fl8 (h : MS w b vs vo m li false F0) (hk : 4 * m.stack.length + 2 * m.out.length + 100 ≤ 1000000000000) (t : Tok) (hx : m.expects = false) (hsk : (rOpen m t).1 = false) (hlt : li < t.line) (hop : (t.op == 8) = true) (hOut : ∀ m', rStep m t (!false && decide (li < t.line)) = some m' → m'.out.length ≤ 1000000000000) : Calls Try.prog 15 #[.pointer (some ⟨b, 0, none⟩), tokV t] w (StpR w b vs vo t (rStep m t (!false && decide (li < t.line)))) := by
  have hbl := h.lt
  have h0 := h.same (Only.alloc (Only.refl (fun _ => False) _) (.cells (tokA t) 33))
  have t0 : TB (w.alloc (.cells (tokA t) 33)) w.heap.size t := new_block _ _
  have hp0 : Pr (w.alloc (.cells (tokA t) 33)) b vs vo w.heap.size := h.pr (Nat.le_refl _) (lt_of_block t0)
  have hf0 : Frm w b vs vo (w.alloc (.cells (tokA t) 33)) vs vo := Frm.keep (Only.alloc (Only.refl _ _) _)
  have hne : ¬ w.heap.size = b := by omega
  have hne' : ¬ b = w.heap.size := by omega
  obtain ⟨i0', hi, hz0, hz1, hz2⟩ := info_parts infoTok
  have HI0 := Lib.hid hi
  have HZ0 := Lib.hid hz0
  have HZ1 := Lib.hid hz1
  have HZ2 := Lib.hid hz2
  clear hi hz0 hz1 hz2
  obtain ⟨mo, hmo⟩ : ∃ mo, (rOpen m t).2 = mo := ⟨_, rfl⟩
  have hos := rOpen_sz m t
  rw [hmo] at hos
  obtain ⟨ho1, ho2⟩ := hos
  have hcb := cntB_le mo.stack
  have c2 := h.c2
  have c3 := h.c3
  rw [hx] at c2
  have HSK : Hid ((rOpen m t).1 = false) := Lib.hid hsk
  have HMO := Lib.hid hmo
  have hk4 : Sz 4 m := by unfold Sz; omega
  have hl1 : decide (li < t.line) = true := decide_eq_true hlt
  have hre : rStep m t (!false && decide (li < t.line)) = (match rLines (mo.stack.length + 1) mo t.col with | none => none | some m1 => rRest m1 t ⟨#[]⟩) := by rw [rStep_eq, hsk, hmo, hx, hl1]; rfl
  rw [hre] at hOut ⊢
  have hlp : mo.stack.length + mo.out.length + cntB mo.stack + 1 ≤ 1000000000000 := by omega
  have hlK : cntB mo.stack ≤ mo.stack.length + 1 := by omega
  cases hln : rLines (mo.stack.length + 1) mo t.col with
  | none =>
    have HLN := Lib.hid hln
    have HR : Hid ((match (none : Option RM) with | none => none | some m1 => rRest m1 t ⟨#[]⟩) = none) := Lib.hid rfl
    clear hln hre hOut hlt hsk hmo hx
    go_enter Try.func15, Try.ntmps15
    go_wp2_with ((go_at_call 28; ((with_reducible refine (ropen_p h0 hk4 t).mono ?_); unfold OpR; rw [HSK.out, HMO.out]; rintro r w1 ⟨rfl, vs1, vo1, hS1, hF1⟩; have hT1 := TB.frm t0 hp0 hF1; have hP1 := (hp0.frm hF1).1; have hG1 := hf0.trans hF1; have c5 := hS1.c5; have c4 := hS1.c4; have c6 : w1.cell? ⟨b, 6, none⟩ = some (.int .i64 0) := hS1.c6; obtain ⟨a0, a1, a2, a3, a4, a5, a6⟩ := hT1.all)))
    go_quiet (fail)
    go_wp2_with (go_at_call 29; (refine (rlines_p (hS1.same (only_drewN _ _)) hlp t _ hlK).mono ?_); rw [HLN.out]; rintro r w2 ⟨rfl, mm, hml, vs2, vo2, hS2, hF2⟩; have c6 : w2.cell? ⟨b, 6, none⟩ = some (.int .i64 9) := hS2.c6)
    refine bodyPost_ret (v := .tuple #[]) (by simp [results, Try.results15, go_sem]) rfl ?_
    exact ⟨rfl, mm, _, _, hS2.x ((hG1.trans (Frm.keep (only_drewN _ _))).trans hF2)⟩
  | some m1 =>
    have hls := rLines_sz _ hln
    have HLN := Lib.hid hln
    rw [hln] at hOut
    clear hln hre
    simp only at hOut ⊢
    have hit := rItem_sz m1 t
    obtain ⟨m2, hm2⟩ : ∃ m2, rItem m1 t = m2 := ⟨_, rfl⟩
    rw [hm2] at hit
    obtain ⟨hi1, hi2⟩ := hit
    have hi2l : m2.out.length = m1.out.length := by rw [hi2]
    have hcn := cnt_le m2.stack
    have hs1 : Sz 1 m1 := by unfold Sz; omega
    have hs2 : Sz 1 m2 := by unfold Sz; omega
    have hsp : m2.stack.length + m2.out.length + cnt m2.stack + 1 ≤ 1000000000000 := by omega
    have hopv : t.op = 8 := by simpa using hop
    have ho8 : (t.op == 8) = true := by rw [hopv]; rfl
    have ho9 : (t.op == 9) = false := by rw [hopv]; rfl
    have ho10 : (t.op == 10) = false := by rw [hopv]; rfl
    have hrr : rRest m1 t ⟨#[]⟩ = (rSpecials m2 t ⟨#[]⟩).map fun m => app1 m t := by unfold rRest; rw [ho8, ho9, hm2]; rfl
    rw [hrr] at hOut ⊢
    have hOb : ∀ m', rSpecials m2 t ⟨#[]⟩ = some m' → m'.out.length + 1 ≤ 1000000000000 := fun m' hm => by
      have := hOut (app1 m' t) (by rw [hm]; rfl)
      have e1 : (app1 m' t).out.length = m'.out.length + 1 := by show (m'.out ++ [t]).length = _; simp
      omega
    have HOB := Lib.hid hOb
    have HM2 := Lib.hid hm2
    clear hrr hOut hsk hmo hx hm2 hOb hi1 hi2 hi2l hcn hls hlt hop hopv
    go_enter Try.func15, Try.ntmps15
    go_wp2_with ((go_at_call 28; ((with_reducible refine (ropen_p h0 hk4 t).mono ?_); unfold OpR; rw [HSK.out, HMO.out]; rintro r w1 ⟨rfl, vs1, vo1, hS1, hF1⟩; have hT1 := TB.frm t0 hp0 hF1; have hP1 := (hp0.frm hF1).1; have hG1 := hf0.trans hF1; have c5 := hS1.c5; have c4 := hS1.c4; have c6 : w1.cell? ⟨b, 6, none⟩ = some (.int .i64 0) := hS1.c6; obtain ⟨a0, a1, a2, a3, a4, a5, a6⟩ := hT1.all)))
    go_quiet (fail)
    go_wp2_with (first | (go_at_call 29; (refine (rlines_p (hS1.same (only_drewN _ _)) hlp t _ hlK).mono ?_); rw [HLN.out]; rintro r w2 ⟨rfl, vs2, vo2, hS2, hF2⟩; have hFd := (Frm.keep (only_drewN _ _)).trans hF2; have hT2 := TB.frm hT1 hP1 hFd; have hP2 := (hP1.frm hFd).1; have hG2 := hG1.trans hFd; have c6b : w2.cell? ⟨b, 6, none⟩ = some (.int .i64 0) := hS2.c6; obtain ⟨b0, b1, b2, b3, b4, b5, b6⟩ := hT2.all) | (go_at_call 30; (refine (ritem_p hS2 hs1 t).mono ?_); rw [HM2.out]; rintro r w3 ⟨rfl, vs3, vo3, hS3, hF3⟩; have hT3 := TB.frm hT2 hP2 hF3; have hP3 := (hP2.frm hF3).1; have hG3 := hG2.trans hF3; obtain ⟨d0, d1, d2, d3, d4, d5, d6⟩ := hT3.all) | (go_at_call 31; (refine (rspecials_p hS3 hsp t ⟨#[]⟩).mono ?_); rintro r w4 hRe; obtain ⟨rfl, mz, Fz, hmz, HZ, vs4, vo4, hS4, hF4⟩ := hRe.any HOB.out; have hT4 := TB.frm hT3 hP3 hF4; have hP4 := (hP3.frm hF4).1; have hG4 := hG3.trans hF4; obtain ⟨g0, g1, g2, g3, g4, g5, g6⟩ := hT4.all; obtain ⟨oa, ca, hvo⟩ := hS4.olen; subst hvo; have y5 := hS4.fz 5; have y4 := hS4.fz 4; have y1 := hS4.fz 1; have k1 := hS4.c1; have k5 := hS4.c5; have k4 := hS4.c4; have hb4 := hS4.lt))
    have hS5 := hS4.past t.line
    have hsz5 : (pastW w4 b t.line).heap.size = w4.heap.size := past_sz _ _ _
    have HSZ := Lib.hid hsz5
    have hHO : (pastW w4 b t.line).ownsRow (b + 1) 33 7 (.slice oa mz.out.length ca) mz.out.length (mz.out.flatMap tokCells) := hS5.out
    clear hsz5
    go_region_law ((refine step_append_lies _ rfl (.tmp 79) (.tmp 81) 22 rfl (b + 1) 33 i0' (.agg #[.int .i64 0, .string ⟨#[]⟩, .string ⟨#[]⟩, .int .i64 0, .bool false, .int .i64 0, .int .i64 0]) 7 72 Try.underlying22 HI0.out HZ0.out HZ1.out HZ2.out rfl (by decide) (.slice oa mz.out.length ca) mz.out.length (mz.out.flatMap tokCells) ?e1 (World.ownsRow.alloc hHO _) ⟨w4.heap.size, 0, none⟩ 1 1 (tokCells t) ?e2 rfl (World.news_of_block (new_at _ HSZ.out)) (one_tok t) Nat.one_pos (by unfold maxLen; omega) (by omega) (by show b + 1 ≤ (Array.push _ _).size; rw [Array.size_push, HSZ.out]; omega) _ rfl ?_); (case e1 => simp [Act.eval]); (case e2 => simp [Act.eval]); (intro g cg w6 hown' hgrow hat hlt'; have hS6 := MS.grownO (hS5.same (((Only.refl _ _).alloc _).drew)) hgrow; have p1 := (blk_c (k := 1) hS6.1 rfl).1; have v1 := (blk_c (k := 1) hS6.1 rfl).2))
    all_goals
      have hTR := TR.snoc (t := t) hown'
      have hO6 : Only (KE b (.slice oa mz.out.length ca)) (pastW w4 b t.line) w6 := (((Only.refl _ _).alloc _).drew).trans (Only.grown hgrow (fun k hk => .inr hk))
      have HBL := Lib.hid (show ∀ g', (Value.slice (some ⟨g, 0, none⟩) (mz.out.length + 1) cg).ownBlock = some g' → (Value.slice oa mz.out.length ca).ownBlock = some g' ∨ (pastW w4 b t.line).heap.size ≤ g' from fun g' hg' => by
        have hgg : g = g' := Option.some.inj hg'
        rcases hat with e | e
        · exact .inl (hgg ▸ e)
        · right
          have e3 : g = (Array.push (pastW w4 b t.line).heap (.cells (tokA t) 33)).size := e
          rw [Array.size_push] at e3
          omega)
      clear hown' hgrow hHO hat
      go_wp2
      go_end0
      exact StpR.fin HZ.out ((MS.put (k := 1) (F := Fz) (F' := Fz) (m := mz) (m' := app1 mz t) hS6.1 rfl hS6.2 hTR).x ((hG4.trans (past_frm _ _ _ _ _)).trans ⟨(hO6.setCell (.inl rfl) _).wide (fun i hi => hi.elim .inl (fun e => .inr (.inr e))), fun _ hg => .inl hg, HBL.out⟩))
set_option maxRecDepth 100000 in
set_option maxHeartbeats 8000000 in
theorem rstep_fl9 (h : MS w b vs vo m li false F0) (hk : 4 * m.stack.length + 2 * m.out.length + 100 ≤ 1000000000000) (t : Tok) (hx : m.expects = false) (hsk : (rOpen m t).1 = false) (hlt : li < t.line) (hop : (t.op == 9) = true) (hOut : ∀ m', rStep m t (!false && decide (li < t.line)) = some m' → m'.out.length ≤ 1000000000000) : Calls Try.prog 15 #[.pointer (some ⟨b, 0, none⟩), tokV t] w (StpR w b vs vo t (rStep m t (!false && decide (li < t.line)))) := by
  have hbl := h.lt
  have h0 := h.same (Only.alloc (Only.refl (fun _ => False) _) (.cells (tokA t) 33))
  have t0 : TB (w.alloc (.cells (tokA t) 33)) w.heap.size t := new_block _ _
  have hp0 : Pr (w.alloc (.cells (tokA t) 33)) b vs vo w.heap.size := h.pr (Nat.le_refl _) (lt_of_block t0)
  have hf0 : Frm w b vs vo (w.alloc (.cells (tokA t) 33)) vs vo := Frm.keep (Only.alloc (Only.refl _ _) _)
  have hne : ¬ w.heap.size = b := by omega
  have hne' : ¬ b = w.heap.size := by omega
  obtain ⟨i0', hi, hz0, hz1, hz2⟩ := info_parts infoTok
  have HI0 := Lib.hid hi
  have HZ0 := Lib.hid hz0
  have HZ1 := Lib.hid hz1
  have HZ2 := Lib.hid hz2
  clear hi hz0 hz1 hz2
  obtain ⟨mo, hmo⟩ : ∃ mo, (rOpen m t).2 = mo := ⟨_, rfl⟩
  have hos := rOpen_sz m t
  rw [hmo] at hos
  obtain ⟨ho1, ho2⟩ := hos
  have hcb := cntB_le mo.stack
  have c2 := h.c2
  have c3 := h.c3
  rw [hx] at c2
  have HSK : Hid ((rOpen m t).1 = false) := Lib.hid hsk
  have HMO := Lib.hid hmo
  have hk4 : Sz 4 m := by unfold Sz; omega
  have hl1 : decide (li < t.line) = true := decide_eq_true hlt
  have hre : rStep m t (!false && decide (li < t.line)) = (match rLines (mo.stack.length + 1) mo t.col with | none => none | some m1 => rRest m1 t ⟨#[]⟩) := by rw [rStep_eq, hsk, hmo, hx, hl1]; rfl
  rw [hre] at hOut ⊢
  have hlp : mo.stack.length + mo.out.length + cntB mo.stack + 1 ≤ 1000000000000 := by omega
  have hlK : cntB mo.stack ≤ mo.stack.length + 1 := by omega
  cases hln : rLines (mo.stack.length + 1) mo t.col with
  | none =>
    have HLN := Lib.hid hln
    have HR : Hid ((match (none : Option RM) with | none => none | some m1 => rRest m1 t ⟨#[]⟩) = none) := Lib.hid rfl
    clear hln hre hOut hlt hsk hmo hx
    go_enter Try.func15, Try.ntmps15
    go_wp2_with ((go_at_call 28; ((with_reducible refine (ropen_p h0 hk4 t).mono ?_); unfold OpR; rw [HSK.out, HMO.out]; rintro r w1 ⟨rfl, vs1, vo1, hS1, hF1⟩; have hT1 := TB.frm t0 hp0 hF1; have hP1 := (hp0.frm hF1).1; have hG1 := hf0.trans hF1; have c5 := hS1.c5; have c4 := hS1.c4; have c6 : w1.cell? ⟨b, 6, none⟩ = some (.int .i64 0) := hS1.c6; obtain ⟨a0, a1, a2, a3, a4, a5, a6⟩ := hT1.all)))
    go_quiet (fail)
    go_wp2_with (go_at_call 29; (refine (rlines_p (hS1.same (only_drewN _ _)) hlp t _ hlK).mono ?_); rw [HLN.out]; rintro r w2 ⟨rfl, mm, hml, vs2, vo2, hS2, hF2⟩; have c6 : w2.cell? ⟨b, 6, none⟩ = some (.int .i64 9) := hS2.c6)
    refine bodyPost_ret (v := .tuple #[]) (by simp [results, Try.results15, go_sem]) rfl ?_
    exact ⟨rfl, mm, _, _, hS2.x ((hG1.trans (Frm.keep (only_drewN _ _))).trans hF2)⟩
  | some m1 =>
    have hls := rLines_sz _ hln
    have HLN := Lib.hid hln
    rw [hln] at hOut
    clear hln hre
    simp only at hOut ⊢
    have hit := rItem_sz m1 t
    obtain ⟨m2, hm2⟩ : ∃ m2, rItem m1 t = m2 := ⟨_, rfl⟩
    rw [hm2] at hit
    obtain ⟨hi1, hi2⟩ := hit
    have hi2l : m2.out.length = m1.out.length := by rw [hi2]
    have hcn := cnt_le m2.stack
    have hs1 : Sz 1 m1 := by unfold Sz; omega
    have hs2 : Sz 1 m2 := by unfold Sz; omega
    have hsp : m2.stack.length + m2.out.length + cnt m2.stack + 1 ≤ 1000000000000 := by omega
    have hopv : t.op = 9 := by simpa using hop
    have ho8 : (t.op == 8) = false := by rw [hopv]; rfl
    have ho9 : (t.op == 9) = true := by rw [hopv]; rfl
    have ho10 : (t.op == 10) = false := by rw [hopv]; rfl
    have hrr : rRest m1 t ⟨#[]⟩ = (rWords m2 t).map fun m => app1 m t := by unfold rRest; rw [ho8, ho9, hm2]; rfl
    rw [hrr] at hOut ⊢
    have hOb : ∀ m', rWords m2 t = some m' → m'.out.length + 1 ≤ 1000000000000 := fun m' hm => by
      have := hOut (app1 m' t) (by rw [hm]; rfl)
      have e1 : (app1 m' t).out.length = m'.out.length + 1 := by show (m'.out ++ [t]).length = _; simp
      omega
    have HOB := Lib.hid hOb
    have HM2 := Lib.hid hm2
    clear hrr hOut hsk hmo hx hm2 hOb hi1 hi2 hi2l hcn hls hlt hop hopv
    go_enter Try.func15, Try.ntmps15
    go_wp2_with ((go_at_call 28; ((with_reducible refine (ropen_p h0 hk4 t).mono ?_); unfold OpR; rw [HSK.out, HMO.out]; rintro r w1 ⟨rfl, vs1, vo1, hS1, hF1⟩; have hT1 := TB.frm t0 hp0 hF1; have hP1 := (hp0.frm hF1).1; have hG1 := hf0.trans hF1; have c5 := hS1.c5; have c4 := hS1.c4; have c6 : w1.cell? ⟨b, 6, none⟩ = some (.int .i64 0) := hS1.c6; obtain ⟨a0, a1, a2, a3, a4, a5, a6⟩ := hT1.all)))
    go_quiet (fail)
    go_wp2_with (first | (go_at_call 29; (refine (rlines_p (hS1.same (only_drewN _ _)) hlp t _ hlK).mono ?_); rw [HLN.out]; rintro r w2 ⟨rfl, vs2, vo2, hS2, hF2⟩; have hFd := (Frm.keep (only_drewN _ _)).trans hF2; have hT2 := TB.frm hT1 hP1 hFd; have hP2 := (hP1.frm hFd).1; have hG2 := hG1.trans hFd; have c6b : w2.cell? ⟨b, 6, none⟩ = some (.int .i64 0) := hS2.c6; obtain ⟨b0, b1, b2, b3, b4, b5, b6⟩ := hT2.all) | (go_at_call 30; (refine (ritem_p hS2 hs1 t).mono ?_); rw [HM2.out]; rintro r w3 ⟨rfl, vs3, vo3, hS3, hF3⟩; have hT3 := TB.frm hT2 hP2 hF3; have hP3 := (hP2.frm hF3).1; have hG3 := hG2.trans hF3; obtain ⟨d0, d1, d2, d3, d4, d5, d6⟩ := hT3.all) | (go_at_call 32; (refine (rwords_p hS3 hs2 t ho9).mono ?_); rintro r w4 hRe; obtain ⟨rfl, mz, Fz, hmz, HZ, vs4, vo4, hS4, hF4⟩ := hRe.any HOB.out; have hT4 := TB.frm hT3 hP3 hF4; have hP4 := (hP3.frm hF4).1; have hG4 := hG3.trans hF4; obtain ⟨g0, g1, g2, g3, g4, g5, g6⟩ := hT4.all; obtain ⟨oa, ca, hvo⟩ := hS4.olen; subst hvo; have y5 := hS4.fz 5; have y4 := hS4.fz 4; have y1 := hS4.fz 1; have k1 := hS4.c1; have k5 := hS4.c5; have k4 := hS4.c4; have hb4 := hS4.lt))
    have hS5 := hS4.past t.line
    have hsz5 : (pastW w4 b t.line).heap.size = w4.heap.size := past_sz _ _ _
    have HSZ := Lib.hid hsz5
    have hHO : (pastW w4 b t.line).ownsRow (b + 1) 33 7 (.slice oa mz.out.length ca) mz.out.length (mz.out.flatMap tokCells) := hS5.out
    clear hsz5
    go_region_law ((refine step_append_lies _ rfl (.tmp 79) (.tmp 81) 22 rfl (b + 1) 33 i0' (.agg #[.int .i64 0, .string ⟨#[]⟩, .string ⟨#[]⟩, .int .i64 0, .bool false, .int .i64 0, .int .i64 0]) 7 72 Try.underlying22 HI0.out HZ0.out HZ1.out HZ2.out rfl (by decide) (.slice oa mz.out.length ca) mz.out.length (mz.out.flatMap tokCells) ?e1 (World.ownsRow.alloc hHO _) ⟨w4.heap.size, 0, none⟩ 1 1 (tokCells t) ?e2 rfl (World.news_of_block (new_at _ HSZ.out)) (one_tok t) Nat.one_pos (by unfold maxLen; omega) (by omega) (by show b + 1 ≤ (Array.push _ _).size; rw [Array.size_push, HSZ.out]; omega) _ rfl ?_); (case e1 => simp [Act.eval]); (case e2 => simp [Act.eval]); (intro g cg w6 hown' hgrow hat hlt'; have hS6 := MS.grownO (hS5.same (((Only.refl _ _).alloc _).drew)) hgrow; have p1 := (blk_c (k := 1) hS6.1 rfl).1; have v1 := (blk_c (k := 1) hS6.1 rfl).2))
    all_goals
      have hTR := TR.snoc (t := t) hown'
      have hO6 : Only (KE b (.slice oa mz.out.length ca)) (pastW w4 b t.line) w6 := (((Only.refl _ _).alloc _).drew).trans (Only.grown hgrow (fun k hk => .inr hk))
      have HBL := Lib.hid (show ∀ g', (Value.slice (some ⟨g, 0, none⟩) (mz.out.length + 1) cg).ownBlock = some g' → (Value.slice oa mz.out.length ca).ownBlock = some g' ∨ (pastW w4 b t.line).heap.size ≤ g' from fun g' hg' => by
        have hgg : g = g' := Option.some.inj hg'
        rcases hat with e | e
        · exact .inl (hgg ▸ e)
        · right
          have e3 : g = (Array.push (pastW w4 b t.line).heap (.cells (tokA t) 33)).size := e
          rw [Array.size_push] at e3
          omega)
      clear hown' hgrow hHO hat
      go_wp2
      go_end0
      exact StpR.fin HZ.out ((MS.put (k := 1) (F := Fz) (F' := Fz) (m := mz) (m' := app1 mz t) hS6.1 rfl hS6.2 hTR).x ((hG4.trans (past_frm _ _ _ _ _)).trans ⟨(hO6.setCell (.inl rfl) _).wide (fun i hi => hi.elim .inl (fun e => .inr (.inr e))), fun _ hg => .inl hg, HBL.out⟩))
set_option maxRecDepth 100000 in
set_option maxHeartbeats 8000000 in
theorem rstep_fle (h : MS w b vs vo m li false F0) (hk : 4 * m.stack.length + 2 * m.out.length + 100 ≤ 1000000000000) (t : Tok) (hx : m.expects = false) (hsk : (rOpen m t).1 = false) (hlt : li < t.line) (hop : (t.op == 10) = true) (htx : tx t.text [61] = true) (hOut : ∀ m', rStep m t (!false && decide (li < t.line)) = some m' → m'.out.length ≤ 1000000000000) : Calls Try.prog 15 #[.pointer (some ⟨b, 0, none⟩), tokV t] w (StpR w b vs vo t (rStep m t (!false && decide (li < t.line)))) := by
  have hbl := h.lt
  have h0 := h.same (Only.alloc (Only.refl (fun _ => False) _) (.cells (tokA t) 33))
  have t0 : TB (w.alloc (.cells (tokA t) 33)) w.heap.size t := new_block _ _
  have hp0 : Pr (w.alloc (.cells (tokA t) 33)) b vs vo w.heap.size := h.pr (Nat.le_refl _) (lt_of_block t0)
  have hf0 : Frm w b vs vo (w.alloc (.cells (tokA t) 33)) vs vo := Frm.keep (Only.alloc (Only.refl _ _) _)
  have hne : ¬ w.heap.size = b := by omega
  have hne' : ¬ b = w.heap.size := by omega
  obtain ⟨i0', hi, hz0, hz1, hz2⟩ := info_parts infoTok
  have HI0 := Lib.hid hi
  have HZ0 := Lib.hid hz0
  have HZ1 := Lib.hid hz1
  have HZ2 := Lib.hid hz2
  clear hi hz0 hz1 hz2
  obtain ⟨mo, hmo⟩ : ∃ mo, (rOpen m t).2 = mo := ⟨_, rfl⟩
  have hos := rOpen_sz m t
  rw [hmo] at hos
  obtain ⟨ho1, ho2⟩ := hos
  have hcb := cntB_le mo.stack
  have c2 := h.c2
  have c3 := h.c3
  rw [hx] at c2
  have HSK : Hid ((rOpen m t).1 = false) := Lib.hid hsk
  have HMO := Lib.hid hmo
  have hk4 : Sz 4 m := by unfold Sz; omega
  have hl1 : decide (li < t.line) = true := decide_eq_true hlt
  have hre : rStep m t (!false && decide (li < t.line)) = (match rLines (mo.stack.length + 1) mo t.col with | none => none | some m1 => rRest m1 t ⟨#[]⟩) := by rw [rStep_eq, hsk, hmo, hx, hl1]; rfl
  rw [hre] at hOut ⊢
  have hlp : mo.stack.length + mo.out.length + cntB mo.stack + 1 ≤ 1000000000000 := by omega
  have hlK : cntB mo.stack ≤ mo.stack.length + 1 := by omega
  cases hln : rLines (mo.stack.length + 1) mo t.col with
  | none =>
    have HLN := Lib.hid hln
    have HR : Hid ((match (none : Option RM) with | none => none | some m1 => rRest m1 t ⟨#[]⟩) = none) := Lib.hid rfl
    clear hln hre hOut hlt hsk hmo hx
    go_enter Try.func15, Try.ntmps15
    go_wp2_with ((go_at_call 28; ((with_reducible refine (ropen_p h0 hk4 t).mono ?_); unfold OpR; rw [HSK.out, HMO.out]; rintro r w1 ⟨rfl, vs1, vo1, hS1, hF1⟩; have hT1 := TB.frm t0 hp0 hF1; have hP1 := (hp0.frm hF1).1; have hG1 := hf0.trans hF1; have c5 := hS1.c5; have c4 := hS1.c4; have c6 : w1.cell? ⟨b, 6, none⟩ = some (.int .i64 0) := hS1.c6; obtain ⟨a0, a1, a2, a3, a4, a5, a6⟩ := hT1.all)))
    go_quiet (fail)
    go_wp2_with (go_at_call 29; (refine (rlines_p (hS1.same (only_drewN _ _)) hlp t _ hlK).mono ?_); rw [HLN.out]; rintro r w2 ⟨rfl, mm, hml, vs2, vo2, hS2, hF2⟩; have c6 : w2.cell? ⟨b, 6, none⟩ = some (.int .i64 9) := hS2.c6)
    refine bodyPost_ret (v := .tuple #[]) (by simp [results, Try.results15, go_sem]) rfl ?_
    exact ⟨rfl, mm, _, _, hS2.x ((hG1.trans (Frm.keep (only_drewN _ _))).trans hF2)⟩
  | some m1 =>
    have hls := rLines_sz _ hln
    have HLN := Lib.hid hln
    rw [hln] at hOut
    clear hln hre
    simp only at hOut ⊢
    have hit := rItem_sz m1 t
    obtain ⟨m2, hm2⟩ : ∃ m2, rItem m1 t = m2 := ⟨_, rfl⟩
    rw [hm2] at hit
    obtain ⟨hi1, hi2⟩ := hit
    have hi2l : m2.out.length = m1.out.length := by rw [hi2]
    have hcn := cnt_le m2.stack
    have hs1 : Sz 1 m1 := by unfold Sz; omega
    have hs2 : Sz 1 m2 := by unfold Sz; omega
    have hsp : m2.stack.length + m2.out.length + cnt m2.stack + 1 ≤ 1000000000000 := by omega
    obtain ⟨mz, hmk⟩ : ∃ mz, rMark m2 true = mz := ⟨_, rfl⟩
    have HMK := Lib.hid hmk
    have hopv : t.op = 10 := by simpa using hop
    have ho8 : (t.op == 8) = false := by rw [hopv]; rfl
    have ho9 : (t.op == 9) = false := by rw [hopv]; rfl
    have ho10 : (t.op == 10) = true := by rw [hopv]; rfl
    have htl : (t.text.toList == [61]) = true := by rw [Lib.toList_data]; exact htx
    have hrr : rRest m1 t ⟨#[]⟩ = (some mz).map fun m => app1 m t := by unfold rRest; rw [ho8, ho9, ho10, htx, hm2, hmk]; rfl
    rw [hrr] at hOut ⊢
    have hOb : ∀ m', some mz = some m' → m'.out.length + 1 ≤ 1000000000000 := fun m' hm => by
      have := hOut (app1 m' t) (by rw [hm]; rfl)
      have e1 : (app1 m' t).out.length = m'.out.length + 1 := by show (m'.out ++ [t]).length = _; simp
      omega
    have HOB := Lib.hid hOb
    have HM2 := Lib.hid hm2
    clear hrr hOut hsk hmo hx hm2 hOb hi1 hi2 hi2l hcn hls hlt htx hmk hop hopv
    go_enter Try.func15, Try.ntmps15
    go_wp2_with ((go_at_call 28; ((with_reducible refine (ropen_p h0 hk4 t).mono ?_); unfold OpR; rw [HSK.out, HMO.out]; rintro r w1 ⟨rfl, vs1, vo1, hS1, hF1⟩; have hT1 := TB.frm t0 hp0 hF1; have hP1 := (hp0.frm hF1).1; have hG1 := hf0.trans hF1; have c5 := hS1.c5; have c4 := hS1.c4; have c6 : w1.cell? ⟨b, 6, none⟩ = some (.int .i64 0) := hS1.c6; obtain ⟨a0, a1, a2, a3, a4, a5, a6⟩ := hT1.all)))
    go_quiet (fail)
    go_wp2_with (first | (go_at_call 29; (refine (rlines_p (hS1.same (only_drewN _ _)) hlp t _ hlK).mono ?_); rw [HLN.out]; rintro r w2 ⟨rfl, vs2, vo2, hS2, hF2⟩; have hFd := (Frm.keep (only_drewN _ _)).trans hF2; have hT2 := TB.frm hT1 hP1 hFd; have hP2 := (hP1.frm hFd).1; have hG2 := hG1.trans hFd; have c6b : w2.cell? ⟨b, 6, none⟩ = some (.int .i64 0) := hS2.c6; obtain ⟨b0, b1, b2, b3, b4, b5, b6⟩ := hT2.all) | (go_at_call 30; (refine (ritem_p hS2 hs1 t).mono ?_); rw [HM2.out]; rintro r w3 ⟨rfl, vs3, vo3, hS3, hF3⟩; have hT3 := TB.frm hT2 hP2 hF3; have hP3 := (hP2.frm hF3).1; have hG3 := hG2.trans hF3; obtain ⟨d0, d1, d2, d3, d4, d5, d6⟩ := hT3.all) | (go_at_call 33; (refine (rmark_p hS3 (hs2.less (Nat.zero_le 1)).rm true).mono ?_); rw [HMK.out]; rintro r w4 ⟨rfl, vs4, vo4, hS4, hF4⟩; have hmz := HOB.out _ rfl; have hT4 := TB.frm hT3 hP3 hF4; have hP4 := (hP3.frm hF4).1; have hG4 := hG3.trans hF4; obtain ⟨g0, g1, g2, g3, g4, g5, g6⟩ := hT4.all; obtain ⟨oa, ca, hvo⟩ := hS4.olen; subst hvo; have y5 := hS4.fz 5; have y4 := hS4.fz 4; have y1 := hS4.fz 1; have k1 := hS4.c1; have k5 := hS4.c5; have k4 := hS4.c4; have hb4 := hS4.lt))
    have hS5 := hS4.past t.line
    have hsz5 : (pastW w4 b t.line).heap.size = w4.heap.size := past_sz _ _ _
    have HSZ := Lib.hid hsz5
    have hHO : (pastW w4 b t.line).ownsRow (b + 1) 33 7 (.slice oa mz.out.length ca) mz.out.length (mz.out.flatMap tokCells) := hS5.out
    clear hsz5
    go_region_law ((refine step_append_lies _ rfl (.tmp 79) (.tmp 81) 22 rfl (b + 1) 33 i0' (.agg #[.int .i64 0, .string ⟨#[]⟩, .string ⟨#[]⟩, .int .i64 0, .bool false, .int .i64 0, .int .i64 0]) 7 72 Try.underlying22 HI0.out HZ0.out HZ1.out HZ2.out rfl (by decide) (.slice oa mz.out.length ca) mz.out.length (mz.out.flatMap tokCells) ?e1 (World.ownsRow.alloc hHO _) ⟨w4.heap.size, 0, none⟩ 1 1 (tokCells t) ?e2 rfl (World.news_of_block (new_at _ HSZ.out)) (one_tok t) Nat.one_pos (by unfold maxLen; omega) (by omega) (by show b + 1 ≤ (Array.push _ _).size; rw [Array.size_push, HSZ.out]; omega) _ rfl ?_); (case e1 => simp [Act.eval]); (case e2 => simp [Act.eval]); (intro g cg w6 hown' hgrow hat hlt'; have hS6 := MS.grownO (hS5.same (((Only.refl _ _).alloc _).drew)) hgrow; have p1 := (blk_c (k := 1) hS6.1 rfl).1; have v1 := (blk_c (k := 1) hS6.1 rfl).2))
    all_goals
      have hTR := TR.snoc (t := t) hown'
      have hO6 : Only (KE b (.slice oa mz.out.length ca)) (pastW w4 b t.line) w6 := (((Only.refl _ _).alloc _).drew).trans (Only.grown hgrow (fun k hk => .inr hk))
      have HBL := Lib.hid (show ∀ g', (Value.slice (some ⟨g, 0, none⟩) (mz.out.length + 1) cg).ownBlock = some g' → (Value.slice oa mz.out.length ca).ownBlock = some g' ∨ (pastW w4 b t.line).heap.size ≤ g' from fun g' hg' => by
        have hgg : g = g' := Option.some.inj hg'
        rcases hat with e | e
        · exact .inl (hgg ▸ e)
        · right
          have e3 : g = (Array.push (pastW w4 b t.line).heap (.cells (tokA t) 33)).size := e
          rw [Array.size_push] at e3
          omega)
      clear hown' hgrow hHO hat
      go_wp2
      go_end0
      exact StpR.fin (R := some mz) (.inr ⟨rfl, rfl⟩) ((MS.put (k := 1) (F := F0) (F' := F0) (m := mz) (m' := app1 mz t) hS6.1 rfl hS6.2 hTR).x ((hG4.trans (past_frm _ _ _ _ _)).trans ⟨(hO6.setCell (.inl rfl) _).wide (fun i hi => hi.elim .inl (fun e => .inr (.inr e))), fun _ hg => .inl hg, HBL.out⟩))
set_option maxRecDepth 100000 in
set_option maxHeartbeats 8000000 in
theorem rstep_fly (h : MS w b vs vo m li false F0) (hk : 4 * m.stack.length + 2 * m.out.length + 100 ≤ 1000000000000) (t : Tok) (hx : m.expects = false) (hsk : (rOpen m t).1 = false) (hlt : li < t.line) (hop : (t.op == 10) = true) (htx : tx t.text [61] = false) (hOut : ∀ m', rStep m t (!false && decide (li < t.line)) = some m' → m'.out.length ≤ 1000000000000) : Calls Try.prog 15 #[.pointer (some ⟨b, 0, none⟩), tokV t] w (StpR w b vs vo t (rStep m t (!false && decide (li < t.line)))) := by
  have hbl := h.lt
  have h0 := h.same (Only.alloc (Only.refl (fun _ => False) _) (.cells (tokA t) 33))
  have t0 : TB (w.alloc (.cells (tokA t) 33)) w.heap.size t := new_block _ _
  have hp0 : Pr (w.alloc (.cells (tokA t) 33)) b vs vo w.heap.size := h.pr (Nat.le_refl _) (lt_of_block t0)
  have hf0 : Frm w b vs vo (w.alloc (.cells (tokA t) 33)) vs vo := Frm.keep (Only.alloc (Only.refl _ _) _)
  have hne : ¬ w.heap.size = b := by omega
  have hne' : ¬ b = w.heap.size := by omega
  obtain ⟨i0', hi, hz0, hz1, hz2⟩ := info_parts infoTok
  have HI0 := Lib.hid hi
  have HZ0 := Lib.hid hz0
  have HZ1 := Lib.hid hz1
  have HZ2 := Lib.hid hz2
  clear hi hz0 hz1 hz2
  obtain ⟨mo, hmo⟩ : ∃ mo, (rOpen m t).2 = mo := ⟨_, rfl⟩
  have hos := rOpen_sz m t
  rw [hmo] at hos
  obtain ⟨ho1, ho2⟩ := hos
  have hcb := cntB_le mo.stack
  have c2 := h.c2
  have c3 := h.c3
  rw [hx] at c2
  have HSK : Hid ((rOpen m t).1 = false) := Lib.hid hsk
  have HMO := Lib.hid hmo
  have hk4 : Sz 4 m := by unfold Sz; omega
  have hl1 : decide (li < t.line) = true := decide_eq_true hlt
  have hre : rStep m t (!false && decide (li < t.line)) = (match rLines (mo.stack.length + 1) mo t.col with | none => none | some m1 => rRest m1 t ⟨#[]⟩) := by rw [rStep_eq, hsk, hmo, hx, hl1]; rfl
  rw [hre] at hOut ⊢
  have hlp : mo.stack.length + mo.out.length + cntB mo.stack + 1 ≤ 1000000000000 := by omega
  have hlK : cntB mo.stack ≤ mo.stack.length + 1 := by omega
  cases hln : rLines (mo.stack.length + 1) mo t.col with
  | none =>
    have HLN := Lib.hid hln
    have HR : Hid ((match (none : Option RM) with | none => none | some m1 => rRest m1 t ⟨#[]⟩) = none) := Lib.hid rfl
    clear hln hre hOut hlt hsk hmo hx
    go_enter Try.func15, Try.ntmps15
    go_wp2_with ((go_at_call 28; ((with_reducible refine (ropen_p h0 hk4 t).mono ?_); unfold OpR; rw [HSK.out, HMO.out]; rintro r w1 ⟨rfl, vs1, vo1, hS1, hF1⟩; have hT1 := TB.frm t0 hp0 hF1; have hP1 := (hp0.frm hF1).1; have hG1 := hf0.trans hF1; have c5 := hS1.c5; have c4 := hS1.c4; have c6 : w1.cell? ⟨b, 6, none⟩ = some (.int .i64 0) := hS1.c6; obtain ⟨a0, a1, a2, a3, a4, a5, a6⟩ := hT1.all)))
    go_quiet (fail)
    go_wp2_with (go_at_call 29; (refine (rlines_p (hS1.same (only_drewN _ _)) hlp t _ hlK).mono ?_); rw [HLN.out]; rintro r w2 ⟨rfl, mm, hml, vs2, vo2, hS2, hF2⟩; have c6 : w2.cell? ⟨b, 6, none⟩ = some (.int .i64 9) := hS2.c6)
    refine bodyPost_ret (v := .tuple #[]) (by simp [results, Try.results15, go_sem]) rfl ?_
    exact ⟨rfl, mm, _, _, hS2.x ((hG1.trans (Frm.keep (only_drewN _ _))).trans hF2)⟩
  | some m1 =>
    have hls := rLines_sz _ hln
    have HLN := Lib.hid hln
    rw [hln] at hOut
    clear hln hre
    simp only at hOut ⊢
    have hit := rItem_sz m1 t
    obtain ⟨m2, hm2⟩ : ∃ m2, rItem m1 t = m2 := ⟨_, rfl⟩
    rw [hm2] at hit
    obtain ⟨hi1, hi2⟩ := hit
    have hi2l : m2.out.length = m1.out.length := by rw [hi2]
    have hcn := cnt_le m2.stack
    have hs1 : Sz 1 m1 := by unfold Sz; omega
    have hs2 : Sz 1 m2 := by unfold Sz; omega
    have hsp : m2.stack.length + m2.out.length + cnt m2.stack + 1 ≤ 1000000000000 := by omega
    have hopv : t.op = 10 := by simpa using hop
    have ho8 : (t.op == 8) = false := by rw [hopv]; rfl
    have ho9 : (t.op == 9) = false := by rw [hopv]; rfl
    have ho10 : (t.op == 10) = true := by rw [hopv]; rfl
    have htl : (t.text.toList == [61]) = false := by rw [Lib.toList_data]; exact htx
    have hrr : rRest m1 t ⟨#[]⟩ = (some m2).map fun m => app1 m t := by unfold rRest; rw [ho8, ho9, ho10, htx, hm2]; rfl
    rw [hrr] at hOut ⊢
    have hOb : ∀ m', some m2 = some m' → m'.out.length + 1 ≤ 1000000000000 := fun m' hm => by
      have := hOut (app1 m' t) (by rw [hm]; rfl)
      have e1 : (app1 m' t).out.length = m'.out.length + 1 := by show (m'.out ++ [t]).length = _; simp
      omega
    have HOB := Lib.hid hOb
    have HM2 := Lib.hid hm2
    clear hrr hOut hsk hmo hx hm2 hOb hi1 hi2 hi2l hcn hls hlt htx hop hopv
    go_enter Try.func15, Try.ntmps15
    go_wp2_with ((go_at_call 28; ((with_reducible refine (ropen_p h0 hk4 t).mono ?_); unfold OpR; rw [HSK.out, HMO.out]; rintro r w1 ⟨rfl, vs1, vo1, hS1, hF1⟩; have hT1 := TB.frm t0 hp0 hF1; have hP1 := (hp0.frm hF1).1; have hG1 := hf0.trans hF1; have c5 := hS1.c5; have c4 := hS1.c4; have c6 : w1.cell? ⟨b, 6, none⟩ = some (.int .i64 0) := hS1.c6; obtain ⟨a0, a1, a2, a3, a4, a5, a6⟩ := hT1.all)))
    go_quiet (fail)
    go_wp2_with (first | (go_at_call 29; (refine (rlines_p (hS1.same (only_drewN _ _)) hlp t _ hlK).mono ?_); rw [HLN.out]; rintro r w2 ⟨rfl, vs2, vo2, hS2, hF2⟩; have hFd := (Frm.keep (only_drewN _ _)).trans hF2; have hT2 := TB.frm hT1 hP1 hFd; have hP2 := (hP1.frm hFd).1; have hG2 := hG1.trans hFd; have c6b : w2.cell? ⟨b, 6, none⟩ = some (.int .i64 0) := hS2.c6; obtain ⟨b0, b1, b2, b3, b4, b5, b6⟩ := hT2.all) | (go_at_call 30; (refine (ritem_p hS2 hs1 t).mono ?_); rw [HM2.out]; rintro r w3 ⟨rfl, vs3, vo3, hS3, hF3⟩; have hT3 := TB.frm hT2 hP2 hF3; have hP3 := (hP2.frm hF3).1; have hG3 := hG2.trans hF3; obtain ⟨d0, d1, d2, d3, d4, d5, d6⟩ := hT3.all; have hS4 := hS3; have hG4 := hG3; have hT4 := hT3; have hP4 := hP3; have hmz := HOB.out _ rfl; obtain ⟨oa, ca, hvo⟩ := hS4.olen; subst hvo; have y5 := hS4.fz 5; have y4 := hS4.fz 4; have y1 := hS4.fz 1; have k1 := hS4.c1; have k5 := hS4.c5; have k4 := hS4.c4; have hb4 := hS4.lt))
    have hS5 := hS4.past t.line
    have hsz5 : (pastW w3 b t.line).heap.size = w3.heap.size := past_sz _ _ _
    have HSZ := Lib.hid hsz5
    have hHO : (pastW w3 b t.line).ownsRow (b + 1) 33 7 (.slice oa m2.out.length ca) m2.out.length (m2.out.flatMap tokCells) := hS5.out
    clear hsz5
    go_region_law ((refine step_append_lies _ rfl (.tmp 79) (.tmp 81) 22 rfl (b + 1) 33 i0' (.agg #[.int .i64 0, .string ⟨#[]⟩, .string ⟨#[]⟩, .int .i64 0, .bool false, .int .i64 0, .int .i64 0]) 7 72 Try.underlying22 HI0.out HZ0.out HZ1.out HZ2.out rfl (by decide) (.slice oa m2.out.length ca) m2.out.length (m2.out.flatMap tokCells) ?e1 (World.ownsRow.alloc hHO _) ⟨w3.heap.size, 0, none⟩ 1 1 (tokCells t) ?e2 rfl (World.news_of_block (new_at _ HSZ.out)) (one_tok t) Nat.one_pos (by unfold maxLen; omega) (by omega) (by show b + 1 ≤ (Array.push _ _).size; rw [Array.size_push, HSZ.out]; omega) _ rfl ?_); (case e1 => simp [Act.eval]); (case e2 => simp [Act.eval]); (intro g cg w6 hown' hgrow hat hlt'; have hS6 := MS.grownO (hS5.same (((Only.refl _ _).alloc _).drew)) hgrow; have p1 := (blk_c (k := 1) hS6.1 rfl).1; have v1 := (blk_c (k := 1) hS6.1 rfl).2))
    all_goals
      have hTR := TR.snoc (t := t) hown'
      have hO6 : Only (KE b (.slice oa m2.out.length ca)) (pastW w3 b t.line) w6 := (((Only.refl _ _).alloc _).drew).trans (Only.grown hgrow (fun k hk => .inr hk))
      have HBL := Lib.hid (show ∀ g', (Value.slice (some ⟨g, 0, none⟩) (m2.out.length + 1) cg).ownBlock = some g' → (Value.slice oa m2.out.length ca).ownBlock = some g' ∨ (pastW w3 b t.line).heap.size ≤ g' from fun g' hg' => by
        have hgg : g = g' := Option.some.inj hg'
        rcases hat with e | e
        · exact .inl (hgg ▸ e)
        · right
          have e3 : g = (Array.push (pastW w3 b t.line).heap (.cells (tokA t) 33)).size := e
          rw [Array.size_push] at e3
          omega)
      clear hown' hgrow hHO hat
      go_wp2
      go_end0
      exact StpR.fin (R := some m2) (.inr ⟨rfl, rfl⟩) ((MS.put (k := 1) (F := F0) (F' := F0) (m := m2) (m' := app1 m2 t) hS6.1 rfl hS6.2 hTR).x ((hG4.trans (past_frm _ _ _ _ _)).trans ⟨(hO6.setCell (.inl rfl) _).wide (fun i hi => hi.elim .inl (fun e => .inr (.inr e))), fun _ hg => .inl hg, HBL.out⟩))
set_option maxRecDepth 100000 in
set_option maxHeartbeats 8000000 in
theorem rstep_flx (h : MS w b vs vo m li false F0) (hk : 4 * m.stack.length + 2 * m.out.length + 100 ≤ 1000000000000) (t : Tok) (hx : m.expects = false) (hsk : (rOpen m t).1 = false) (hlt : li < t.line) (hop8 : (t.op == 8) = false) (hop9 : (t.op == 9) = false) (hop : (t.op == 10) = false) (hOut : ∀ m', rStep m t (!false && decide (li < t.line)) = some m' → m'.out.length ≤ 1000000000000) : Calls Try.prog 15 #[.pointer (some ⟨b, 0, none⟩), tokV t] w (StpR w b vs vo t (rStep m t (!false && decide (li < t.line)))) := by
  have hbl := h.lt
  have h0 := h.same (Only.alloc (Only.refl (fun _ => False) _) (.cells (tokA t) 33))
  have t0 : TB (w.alloc (.cells (tokA t) 33)) w.heap.size t := new_block _ _
  have hp0 : Pr (w.alloc (.cells (tokA t) 33)) b vs vo w.heap.size := h.pr (Nat.le_refl _) (lt_of_block t0)
  have hf0 : Frm w b vs vo (w.alloc (.cells (tokA t) 33)) vs vo := Frm.keep (Only.alloc (Only.refl _ _) _)
  have hne : ¬ w.heap.size = b := by omega
  have hne' : ¬ b = w.heap.size := by omega
  obtain ⟨i0', hi, hz0, hz1, hz2⟩ := info_parts infoTok
  have HI0 := Lib.hid hi
  have HZ0 := Lib.hid hz0
  have HZ1 := Lib.hid hz1
  have HZ2 := Lib.hid hz2
  clear hi hz0 hz1 hz2
  obtain ⟨mo, hmo⟩ : ∃ mo, (rOpen m t).2 = mo := ⟨_, rfl⟩
  have hos := rOpen_sz m t
  rw [hmo] at hos
  obtain ⟨ho1, ho2⟩ := hos
  have hcb := cntB_le mo.stack
  have c2 := h.c2
  have c3 := h.c3
  rw [hx] at c2
  have HSK : Hid ((rOpen m t).1 = false) := Lib.hid hsk
  have HMO := Lib.hid hmo
  have hk4 : Sz 4 m := by unfold Sz; omega
  have hl1 : decide (li < t.line) = true := decide_eq_true hlt
  have hre : rStep m t (!false && decide (li < t.line)) = (match rLines (mo.stack.length + 1) mo t.col with | none => none | some m1 => rRest m1 t ⟨#[]⟩) := by rw [rStep_eq, hsk, hmo, hx, hl1]; rfl
  rw [hre] at hOut ⊢
  have hlp : mo.stack.length + mo.out.length + cntB mo.stack + 1 ≤ 1000000000000 := by omega
  have hlK : cntB mo.stack ≤ mo.stack.length + 1 := by omega
  cases hln : rLines (mo.stack.length + 1) mo t.col with
  | none =>
    have HLN := Lib.hid hln
    have HR : Hid ((match (none : Option RM) with | none => none | some m1 => rRest m1 t ⟨#[]⟩) = none) := Lib.hid rfl
    clear hln hre hOut hlt hsk hmo hx
    go_enter Try.func15, Try.ntmps15
    go_wp2_with ((go_at_call 28; ((with_reducible refine (ropen_p h0 hk4 t).mono ?_); unfold OpR; rw [HSK.out, HMO.out]; rintro r w1 ⟨rfl, vs1, vo1, hS1, hF1⟩; have hT1 := TB.frm t0 hp0 hF1; have hP1 := (hp0.frm hF1).1; have hG1 := hf0.trans hF1; have c5 := hS1.c5; have c4 := hS1.c4; have c6 : w1.cell? ⟨b, 6, none⟩ = some (.int .i64 0) := hS1.c6; obtain ⟨a0, a1, a2, a3, a4, a5, a6⟩ := hT1.all)))
    go_quiet (fail)
    go_wp2_with (go_at_call 29; (refine (rlines_p (hS1.same (only_drewN _ _)) hlp t _ hlK).mono ?_); rw [HLN.out]; rintro r w2 ⟨rfl, mm, hml, vs2, vo2, hS2, hF2⟩; have c6 : w2.cell? ⟨b, 6, none⟩ = some (.int .i64 9) := hS2.c6)
    refine bodyPost_ret (v := .tuple #[]) (by simp [results, Try.results15, go_sem]) rfl ?_
    exact ⟨rfl, mm, _, _, hS2.x ((hG1.trans (Frm.keep (only_drewN _ _))).trans hF2)⟩
  | some m1 =>
    have hls := rLines_sz _ hln
    have HLN := Lib.hid hln
    rw [hln] at hOut
    clear hln hre
    simp only at hOut ⊢
    have hit := rItem_sz m1 t
    obtain ⟨m2, hm2⟩ : ∃ m2, rItem m1 t = m2 := ⟨_, rfl⟩
    rw [hm2] at hit
    obtain ⟨hi1, hi2⟩ := hit
    have hi2l : m2.out.length = m1.out.length := by rw [hi2]
    have hcn := cnt_le m2.stack
    have hs1 : Sz 1 m1 := by unfold Sz; omega
    have hs2 : Sz 1 m2 := by unfold Sz; omega
    have hsp : m2.stack.length + m2.out.length + cnt m2.stack + 1 ≤ 1000000000000 := by omega
    have ho8 := hop8
    have ho9 := hop9
    have ho10 := hop
    have hrr : rRest m1 t ⟨#[]⟩ = (some m2).map fun m => app1 m t := by unfold rRest; rw [ho8, ho9, ho10, hm2]; rfl
    rw [hrr] at hOut ⊢
    have hOb : ∀ m', some m2 = some m' → m'.out.length + 1 ≤ 1000000000000 := fun m' hm => by
      have := hOut (app1 m' t) (by rw [hm]; rfl)
      have e1 : (app1 m' t).out.length = m'.out.length + 1 := by show (m'.out ++ [t]).length = _; simp
      omega
    have HOB := Lib.hid hOb
    have HM2 := Lib.hid hm2
    clear hrr hOut hsk hmo hx hm2 hOb hi1 hi2 hi2l hcn hls hlt
    go_enter Try.func15, Try.ntmps15
    go_wp2_with ((go_at_call 28; ((with_reducible refine (ropen_p h0 hk4 t).mono ?_); unfold OpR; rw [HSK.out, HMO.out]; rintro r w1 ⟨rfl, vs1, vo1, hS1, hF1⟩; have hT1 := TB.frm t0 hp0 hF1; have hP1 := (hp0.frm hF1).1; have hG1 := hf0.trans hF1; have c5 := hS1.c5; have c4 := hS1.c4; have c6 : w1.cell? ⟨b, 6, none⟩ = some (.int .i64 0) := hS1.c6; obtain ⟨a0, a1, a2, a3, a4, a5, a6⟩ := hT1.all)))
    go_quiet (fail)
    go_wp2_with (first | (go_at_call 29; (refine (rlines_p (hS1.same (only_drewN _ _)) hlp t _ hlK).mono ?_); rw [HLN.out]; rintro r w2 ⟨rfl, vs2, vo2, hS2, hF2⟩; have hFd := (Frm.keep (only_drewN _ _)).trans hF2; have hT2 := TB.frm hT1 hP1 hFd; have hP2 := (hP1.frm hFd).1; have hG2 := hG1.trans hFd; have c6b : w2.cell? ⟨b, 6, none⟩ = some (.int .i64 0) := hS2.c6; obtain ⟨b0, b1, b2, b3, b4, b5, b6⟩ := hT2.all) | (go_at_call 30; (refine (ritem_p hS2 hs1 t).mono ?_); rw [HM2.out]; rintro r w3 ⟨rfl, vs3, vo3, hS3, hF3⟩; have hT3 := TB.frm hT2 hP2 hF3; have hP3 := (hP2.frm hF3).1; have hG3 := hG2.trans hF3; obtain ⟨d0, d1, d2, d3, d4, d5, d6⟩ := hT3.all; have hS4 := hS3; have hG4 := hG3; have hT4 := hT3; have hP4 := hP3; have hmz := HOB.out _ rfl; obtain ⟨oa, ca, hvo⟩ := hS4.olen; subst hvo; have y5 := hS4.fz 5; have y4 := hS4.fz 4; have y1 := hS4.fz 1; have k1 := hS4.c1; have k5 := hS4.c5; have k4 := hS4.c4; have hb4 := hS4.lt))
    have hS5 := hS4.past t.line
    have hsz5 : (pastW w3 b t.line).heap.size = w3.heap.size := past_sz _ _ _
    have HSZ := Lib.hid hsz5
    have hHO : (pastW w3 b t.line).ownsRow (b + 1) 33 7 (.slice oa m2.out.length ca) m2.out.length (m2.out.flatMap tokCells) := hS5.out
    clear hsz5
    go_region_law ((refine step_append_lies _ rfl (.tmp 79) (.tmp 81) 22 rfl (b + 1) 33 i0' (.agg #[.int .i64 0, .string ⟨#[]⟩, .string ⟨#[]⟩, .int .i64 0, .bool false, .int .i64 0, .int .i64 0]) 7 72 Try.underlying22 HI0.out HZ0.out HZ1.out HZ2.out rfl (by decide) (.slice oa m2.out.length ca) m2.out.length (m2.out.flatMap tokCells) ?e1 (World.ownsRow.alloc hHO _) ⟨w3.heap.size, 0, none⟩ 1 1 (tokCells t) ?e2 rfl (World.news_of_block (new_at _ HSZ.out)) (one_tok t) Nat.one_pos (by unfold maxLen; omega) (by omega) (by show b + 1 ≤ (Array.push _ _).size; rw [Array.size_push, HSZ.out]; omega) _ rfl ?_); (case e1 => simp [Act.eval]); (case e2 => simp [Act.eval]); (intro g cg w6 hown' hgrow hat hlt'; have hS6 := MS.grownO (hS5.same (((Only.refl _ _).alloc _).drew)) hgrow; have p1 := (blk_c (k := 1) hS6.1 rfl).1; have v1 := (blk_c (k := 1) hS6.1 rfl).2))
    all_goals
      have hTR := TR.snoc (t := t) hown'
      have hO6 : Only (KE b (.slice oa m2.out.length ca)) (pastW w3 b t.line) w6 := (((Only.refl _ _).alloc _).drew).trans (Only.grown hgrow (fun k hk => .inr hk))
      have HBL := Lib.hid (show ∀ g', (Value.slice (some ⟨g, 0, none⟩) (m2.out.length + 1) cg).ownBlock = some g' → (Value.slice oa m2.out.length ca).ownBlock = some g' ∨ (pastW w3 b t.line).heap.size ≤ g' from fun g' hg' => by
        have hgg : g = g' := Option.some.inj hg'
        rcases hat with e | e
        · exact .inl (hgg ▸ e)
        · right
          have e3 : g = (Array.push (pastW w3 b t.line).heap (.cells (tokA t) 33)).size := e
          rw [Array.size_push] at e3
          omega)
      clear hown' hgrow hHO hat
      go_wp2
      go_end0
      exact StpR.fin (R := some m2) (.inr ⟨rfl, rfl⟩) ((MS.put (k := 1) (F := F0) (F' := F0) (m := m2) (m' := app1 m2 t) hS6.1 rfl hS6.2 hTR).x ((hG4.trans (past_frm _ _ _ _ _)).trans ⟨(hO6.setCell (.inl rfl) _).wide (fun i hi => hi.elim .inl (fun e => .inr (.inr e))), fun _ hg => .inl hg, HBL.out⟩))
end
end Go.Proofs.Ythblchafjmgmbaa
