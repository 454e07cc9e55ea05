/-
  WALKS. The reference's machine: fails, mark.
-/
import Derived.Test.YthblchafjmgmbaaLzC
import Derived.Test.YthblchafjmgmbaaLyZ
import Derived.Test.YthblchafjmgmbaaLir2
namespace Go.Proofs.Ythblchafjmgmbaa
open Go.RowKit Go.Maps
/-- A position: none, or an element's. -/
theorem pos_cases (p : REl → Bool) (l : List REl) : (lix p l.reverse = -1 ∧ getR l (lix p l.reverse) = none) ∨ ∃ (i : Nat) (e : REl) (hi : i < l.length), lix p l.reverse = (i : Int) ∧ l[i] = e ∧ getR l (lix p l.reverse) = some e := by
  obtain ⟨h1, h2⟩ := lix_lt p l.reverse
  rw [List.length_reverse] at h1
  obtain ⟨x, hx⟩ : ∃ x, lix p l.reverse = x := ⟨_, rfl⟩
  rw [hx] at h1 h2 ⊢
  by_cases h : x = -1
  · subst h; exact .inl ⟨rfl, rfl⟩
  · obtain ⟨i, rfl⟩ : ∃ i : Nat, x = (i : Int) := ⟨x.toNat, by omega⟩
    have hi : i < l.length := by omega
    refine .inr ⟨i, l[i], hi, rfl, rfl, ?_⟩
    unfold getR
    rw [if_neg (by omega), Int.toNat_natCast, List.getElem?_eq_getElem hi]
theorem flat_eq (b : Bool) (es : List REl) : ∀ k, k < es.length → (es.flatMap rCells).set (k * 4 + 3) (.bool b) = (es.modify k (fun e => { e with eq := b })).flatMap rCells := by
  induction es with
  | nil => intro k hk; simp at hk
  | cons e es ih =>
    intro k hk
    cases k with
    | zero => simp [rCells]
    | succ k =>
      rw [List.flatMap_cons, List.set_append_right _ _ (by simp [rCells]; omega), List.modify_succ_cons, List.flatMap_cons]
      have e2 : (k + 1) * 4 + 3 - (rCells e).length = k * 4 + 3 := by simp [rCells]; omega
      rw [e2, ih k (by simpa using hk)]
section
variable {w w' : World} {b : Nat} {vs vo : Value} {m : RM} {li : Int} {fi : Bool} {F : RF}
/-- A mark in the stack is written. -/
theorem MS.markd {g ca : Nat} (h : MS w b (.slice (some ⟨g, 0, none⟩) m.stack.length ca) vo m li fi F) {i : Nat} (hi : i < m.stack.length) (mb : Bool) : MS (w.setCell ⟨g, i * 4 + 3, none⟩ (.bool mb)) b (.slice (some ⟨g, 0, none⟩) m.stack.length ca) vo { m with stack := rEq m.stack (i : Int) mb } li fi F := by
  have hg := (World.ownsRow.lt h.els g rfl).1
  have hO : Only (· = g) w (w.setCell ⟨g, i * 4 + 3, none⟩ (.bool mb)) := Only.setCell (K := (· = g)) (Only.refl _ _) rfl _
  refine ⟨(hO.block b h.lt (fun e => by omega)).trans h.blk, ?_, ?_⟩
  · have h1 := row_set h.els (j := i * 4 + 3) (by omega) (.bool mb)
    show RR _ _ _ (rEq m.stack (i : Int) mb)
    unfold RR rEq
    rw [Int.toNat_natCast, ← flat_eq mb m.stack i hi, List.length_modify]
    exact h1
  · exact h.out.only hO (fun g' hg' e => rowApart h.out h.els (by decide) hg' (by rw [← e] at *; rfl))
theorem MS.putF (h : MS w b vs vo m li fi F) (F' : RF) : MS ((((w.setCell ⟨b, 6, none⟩ (.int .i64 F'.code)).setCell ⟨b, 7, none⟩ (.string F'.name)).setCell ⟨b, 8, none⟩ (.int .i64 F'.line)).setCell ⟨b, 9, none⟩ (.int .i64 F'.col)) b vs vo m li fi F' := by
  have hO : Only (· = b) w ((((w.setCell ⟨b, 6, none⟩ (.int .i64 F'.code)).setCell ⟨b, 7, none⟩ (.string F'.name)).setCell ⟨b, 8, none⟩ (.int .i64 F'.line)).setCell ⟨b, 9, none⟩ (.int .i64 F'.col)) :=
    ((((Only.refl _ _).setCell (K := (· = b)) rfl _).setCell rfl _).setCell rfl _).setCell rfl _
  refine ⟨?_, h.els.only hO (fun g hg e => by have := (World.ownsRow.lt h.els g hg).1; omega), h.out.only hO (fun g hg e => by have := (World.ownsRow.lt h.out g hg).1; omega)⟩
  have h' := h.blk
  simp [World.setCell, Array.getElem?_modify, h']
set_option maxRecDepth 100000 in
set_option maxHeartbeats 2000000 in
theorem fails_p (h : MS w b vs vo m li fi F) (t : Tok) : Calls Try.prog 17 #[.pointer (some ⟨b, 0, none⟩), tokV t] w fun r w' => r = .returned (.tuple #[]) ∧ MS w' b vs vo m li fi ⟨9, t.text, t.line, t.col⟩ ∧ Only (· = b) w w' := by
  have hb := h.lt
  have c6 := h.c6
  have c7 := h.c7
  have c8 := h.c8
  have c9 := h.c9
  have z6 := h.fz 6
  have z7 := h.fz 7
  have z8 := h.fz 8
  have z9 := h.fz 9
  go_enter Try.func17, Try.ntmps17
  go_wp2
  go_end0
  exact ⟨rfl, (h.putF ⟨9, t.text, t.line, t.col⟩).same ((Only.refl _ _).alloc _), (((((Only.refl _ _).setCell (K := (· = b)) rfl _).setCell rfl _).setCell rfl _).setCell rfl _).alloc _⟩
set_option maxRecDepth 100000 in
set_option maxHeartbeats 2000000 in
theorem rmark_p (h : MS w b vs vo m li fi F) (hk : Rm 0 m) (mb : Bool) : Calls Try.prog 33 #[.pointer (some ⟨b, 0, none⟩), .bool mb] w fun r w' => r = .returned (.tuple #[]) ∧ MSx w b vs vo (rMark m mb) li fi F w' := by
  have hz := hk.els
  rcases pos_cases (fun e => !(e.form == 5)) m.stack with ⟨hx, hg⟩ | ⟨i, e, hi, hx, he, hg⟩
  · have HX : Hid (rCtx m.stack = -1) := Lib.hid hx
    have HR : Hid (rMark m mb = m) := Lib.hid (by unfold rMark rCtx; rw [hg])
    clear hx hg
    go_enter Try.func33, Try.ntmps33
    go_wp2_with (go_at_call 53; refine (rctx_p h hk).mono ?_; rw [HX.out]; rintro r w1 ⟨rfl, hw1⟩; subst hw1)
    go_end0
    exact ⟨rfl, by rw [HR.out]; exact h.x (Frm.keep (Only.refl _ _))⟩
  · have HX : Hid (rCtx m.stack = (i : Int)) := Lib.hid hx
    obtain ⟨oa, ca, rfl⟩ := h.elen
    obtain ⟨g, hve, hbg, -, hca, hc, hfz⟩ := h.els.at hi
    cases hve
    rw [he] at hc
    have c0 := h.c0
    have d0 := hc.c0
    have d3 := hc.c3
    have y3 := hfz (i * 4 + 3)
    obtain ⟨n, hn⟩ : ∃ n, m.stack.length = n := ⟨_, rfl⟩
    obtain ⟨f, hf⟩ : ∃ f, e.form = f := ⟨_, rfl⟩
    have HM := Lib.hid (h.markd hi mb)
    rw [hn] at c0 hca hi hz
    rw [hf] at d0
    have HN := Lib.hid hn
    cases hq : (f == 1)
    · have HR : Hid (rMark m mb = m) := Lib.hid (by unfold rMark rCtx; rw [hg]; simp only [hf, hq]; rfl)
      clear hn hx hg he hc hfz hf
      go_enter Try.func33, Try.ntmps33
      go_wp2_with (go_at_call 53; refine (rctx_p h hk).mono ?_; rw [HX.out]; rintro r w1 ⟨rfl, hw1⟩; subst hw1)
      go_end0
      exact ⟨rfl, by rw [HR.out]; exact h.x (Frm.keep (Only.refl _ _))⟩
    · have HR : Hid (rMark m mb = { m with stack := rEq m.stack (i : Int) mb }) := Lib.hid (by unfold rMark; rw [show rCtx m.stack = (i : Int) from hx]; rw [hx] at hg; rw [hg]; simp only [hf, hq]; rfl)
      clear hn hx hg he hc hfz hf
      go_enter Try.func33, Try.ntmps33
      go_wp2_with (go_at_call 53; refine (rctx_p h hk).mono ?_; rw [HX.out]; rintro r w1 ⟨rfl, hw1⟩; subst hw1)
      go_end0
      exact ⟨rfl, by rw [HR.out]; exact HM.out.x ⟨Only.setCell (Only.refl _ _) (.inr (.inl rfl)) _, fun _ hg => .inl hg, fun _ hg => .inl hg⟩⟩
/-- Room for so many more, stack and tokens together. -/
def Sz (k : Nat) (m : RM) : Prop := m.stack.length + m.out.length + k ≤ 1000000000000
theorem Sz.rm {k : Nat} (h : Sz k m) : Rm k m := ⟨by unfold Sz at h; omega, by unfold Sz at h; omega⟩
theorem Sz.less {k j : Nat} (h : Sz k m) (hj : j ≤ k) : Sz j m := by unfold Sz at *; omega
theorem rep_len (n : Nat) : (rep n).length = n := List.length_replicate
theorem rCut_size (m : RM) (a : Int) : (rCut m a).stack.length + (rCut m a).out.length ≤ m.stack.length + m.out.length := by
  have h1 := List.countP_le_length (p := fun e : REl => e.form == 1) (l := m.stack.drop (a + 1).toNat)
  show (m.stack.take (a + 1).toNat).length + (m.out ++ rep ((m.stack.drop (a + 1).toNat).countP (fun e => e.form == 1))).length ≤ _
  rw [List.length_append, rep_len, List.length_take]
  rw [List.length_drop] at h1
  omega
/-- What a step of the machine leaves: a fault, or the machine in a new state. -/
def ReR (w : World) (b : Nat) (vs vo : Value) (li : Int) (fi : Bool) (F : RF) (t : Tok) (R : Option RM) (r : Ending) (w' : World) : Prop := r = .returned (.tuple #[]) ∧ match R with
  | none => ∃ mm : RM, mm.out.length + 1 ≤ 1000000000000 ∧ MSx w b vs vo mm li fi ⟨9, t.text, t.line, t.col⟩ w'
  | some m' => MSx w b vs vo m' li fi F w'
theorem MSx.pre {w1 : World} {m' : RM} (h : MSx w1 b vs vo m' li fi F w') (ho : Only (fun _ => False) w w1) : MSx w b vs vo m' li fi F w' := h.frm (Frm.keep ho)
set_option maxRecDepth 100000 in
set_option maxHeartbeats 4000000 in
theorem rcloses_p (h : MS w b vs vo m li fi F) (hk : Sz 1 m) (t : Tok) (form : Int) : Calls Try.prog 54 #[.pointer (some ⟨b, 0, none⟩), tokV t, .int .i64 form] w (ReR w b vs vo li fi F t (rCloses m form)) := by
  have hb := h.lt
  have hA : Only (fun _ => False) w (w.alloc (.cells (tokA t) 33)) := (Only.refl _ _).alloc _
  have h0 := h.same hA
  rcases pos_cases (fun e => !((e.form == 5) || (e.form == 1))) m.stack with ⟨hx, hg⟩ | ⟨i, e, hi, hx, he, hg⟩
  · have HX : Hid (rWri m.stack = -1) := Lib.hid hx
    have HR : Hid (rCloses m form = none) := Lib.hid (by unfold rCloses rWri; rw [hg])
    clear hx hg
    go_enter Try.func54, Try.ntmps54
    go_wp2_with (first | (go_at_call 52; refine (rwri_p h0 (hk.less (Nat.zero_le 1)).rm).mono ?_; rw [HX.out]; rintro r w1 ⟨rfl, hw1⟩; subst hw1) | (go_at_call 17; refine (fails_p h0 t).mono ?_; rintro r w2 ⟨rfl, hS2, hO2⟩))
    go_end0
    exact ⟨rfl, by rw [HR.out]; exact ⟨m, hk.rm.out, hS2.x ((Frm.keep hA).trans (Frm.here hO2 rfl))⟩⟩
  · have HX : Hid (rWri m.stack = (i : Int)) := Lib.hid hx
    obtain ⟨oa, ca, rfl⟩ := h0.elen
    obtain ⟨g, hve, hbg, -, hca, hc, hfz⟩ := h0.els.at hi
    cases hve
    rw [he] at hc
    have c0 := h0.c0
    have d0 := hc.c0
    have d2 := hc.c2
    obtain ⟨n, hn⟩ : ∃ n, m.stack.length = n := ⟨_, rfl⟩
    obtain ⟨f, hf⟩ : ∃ f, e.form = f := ⟨_, rfl⟩
    rw [hn] at c0 hca
    rw [hf] at d0
    have HN := Lib.hid hn
    have hin : i < n := by rw [← hn]; exact hi
    have HG : Hid (getR m.stack (rWri m.stack) = some e) := Lib.hid hg
    cases hq : (f == form)
    · have HR : Hid (rCloses m form = none) := Lib.hid (by unfold rCloses; rw [HG.out]; simp only [hf, hq]; rfl)
      have hq2 : (f != form) = true := by simpa using hq
      clear hn hx hg he hc hfz hf hi
      go_enter Try.func54, Try.ntmps54
      go_wp2_with (first | (go_at_call 52; refine (rwri_p h0 (hk.less (Nat.zero_le 1)).rm).mono ?_; rw [HX.out]; rintro r w1 ⟨rfl, hw1⟩; subst hw1) | (go_at_call 17; refine (fails_p h0 t).mono ?_; rintro r w2 ⟨rfl, hS2, hO2⟩))
      go_end0
      exact ⟨rfl, by rw [HR.out]; exact ⟨m, hk.rm.out, hS2.x ((Frm.keep hA).trans (Frm.here hO2 rfl))⟩⟩
    · have hq2 : (f != form) = false := by simpa using hq
      have HS : Hid ((rCut m (i : Int)).stack.length = i + 1) := Lib.hid (by show (m.stack.take _).length = _; rw [List.length_take]; omega)
      have hz := rCut_size m (i : Int)
      have hzm : Rm 1 { rCut m (i : Int) with stack := (rCut m (i : Int)).stack.take i } := ⟨by show ((rCut m (i : Int)).stack.take i).length + 1 ≤ _; rw [List.length_take, HS.out]; have := hk.rm.els; omega, by show (rCut m (i : Int)).out.length + 1 ≤ _; unfold Sz at hk; omega⟩
      have hki : m.stack.length + m.out.length + 1 ≤ 1000000000000 := hk
      have hiz : (i : Int) ≤ 1000000000000 := by omega
      cases hq3 : (form == 2)
      · have HR : Hid (rCloses m form = some (rWait { rCut m (i : Int) with stack := (rCut m (i : Int)).stack.take i } ⟨#[]⟩)) := Lib.hid (by unfold rCloses; rw [HG.out, show rWri m.stack = (i : Int) from hx]; simp only [hf, hq, hq3, Int.toNat_natCast]; rfl)
        clear hn hx hg he hc hfz hf hi hz
        go_enter Try.func54, Try.ntmps54
        go_wp2_with (first | (go_at_call 52; refine (rwri_p h0 (hk.less (Nat.zero_le 1)).rm).mono ?_; rw [HX.out]; rintro r w1 ⟨rfl, hw1⟩; subst hw1) | (go_at_call 18; refine (rcut_p h0 hki (i : Int) (by omega) hiz).mono ?_; rintro r w2 ⟨rfl, vs2, vo2, hS2, hF2⟩; obtain ⟨oa2, ca2, hv2⟩ := hS2.elen; subst hv2; obtain ⟨g2, hg2, hbg2, -, hca2, -, -⟩ := hS2.els.at (k := i) (by rw [HS.out]; omega); cases hg2; have e0 := hS2.c0; have z2 := hS2.fz 0; have HRR := Lib.hid (RR.cut hS2.els (k := i) (by rw [HS.out]; omega)); rw [HS.out] at e0 hca2) | (go_at_call 51; refine (wait_p (MS.put (m' := { rCut m (i : Int) with stack := (rCut m (i : Int)).stack.take i }) (k := 0) hS2.blk rfl HRR.out hS2.out) ⟨#[]⟩ (fun _ => hzm)).mono ?_; rintro r w3 ⟨rfl, hS3⟩))
        go_end0
        exact ⟨rfl, by rw [HR.out]; exact hS3.frm ((Frm.keep hA).trans (hF2.trans (Frm.here (Only.setCell (K := (· = b)) (Only.refl _ _) rfl _) rfl)))⟩
      · have HR : Hid (rCloses m form = some (rWait { rCut m (i : Int) with stack := (rCut m (i : Int)).stack.take i } e.word)) := Lib.hid (by unfold rCloses; rw [HG.out, show rWri m.stack = (i : Int) from hx]; simp only [hf, hq, hq3, Int.toNat_natCast]; rfl)
        clear hn hx hg he hc hfz hf hi hz
        go_enter Try.func54, Try.ntmps54
        go_wp2_with (first | (go_at_call 52; refine (rwri_p h0 (hk.less (Nat.zero_le 1)).rm).mono ?_; rw [HX.out]; rintro r w1 ⟨rfl, hw1⟩; subst hw1) | (go_at_call 18; refine (rcut_p h0 hki (i : Int) (by omega) hiz).mono ?_; rintro r w2 ⟨rfl, vs2, vo2, hS2, hF2⟩; obtain ⟨oa2, ca2, hv2⟩ := hS2.elen; subst hv2; obtain ⟨g2, hg2, hbg2, -, hca2, -, -⟩ := hS2.els.at (k := i) (by rw [HS.out]; omega); cases hg2; have e0 := hS2.c0; have z2 := hS2.fz 0; have HRR := Lib.hid (RR.cut hS2.els (k := i) (by rw [HS.out]; omega)); rw [HS.out] at e0 hca2) | (go_at_call 51; refine (wait_p (MS.put (m' := { rCut m (i : Int) with stack := (rCut m (i : Int)).stack.take i }) (k := 0) hS2.blk rfl HRR.out hS2.out) e.word (fun _ => hzm)).mono ?_; rintro r w3 ⟨rfl, hS3⟩))
        go_end0
        exact ⟨rfl, by rw [HR.out]; exact hS3.frm ((Frm.keep hA).trans (hF2.trans (Frm.here (Only.setCell (K := (· = b)) (Only.refl _ _) rfl _) rfl)))⟩
end
end Go.Proofs.Ythblchafjmgmbaa
