/-
  WALKS. The reference's machine: open.
-/
import Derived.Test.YthblchafjmgmbaaLzK
import Derived.Test.YthblchafjmgmbaaLyO
namespace Go.Proofs.Ythblchafjmgmbaa
open Go.RowKit Go.Maps

def rUn (m : RM) : RM := { m with expects := false }
theorem rOpen_no {m : RM} (t : Tok) (hx : m.expects = false) : rOpen m t = (false, m) := by unfold rOpen; rw [hx]; rfl
theorem rOpen_sp {m : RM} {t : Tok} (hx : m.expects = true) (h1 : spT t [123] = true) : rOpen m t = (true, rUn m) := by unfold rOpen; rw [hx, h1]; rfl
theorem rOpen_mod {m : RM} {t : Tok} (hx : m.expects = true) (h1 : spT t [123] = false) (h2 : (m.word.data.toList.isEmpty && wdT t bModule) = true) : rOpen m t = (false, rUn m) := by
  unfold rOpen
  rw [hx, h1]
  simp only [h2, Bool.not_true, Bool.false_eq_true, if_false, if_true]
  rfl
theorem rOpen_col {m : RM} {t : Tok} (hx : m.expects = true) (h1 : spT t [123] = false) (h2 : (m.word.data.toList.isEmpty && wdT t bModule) = false) {c : Int} (hc : rBegC m.stack = c) :
    rOpen m t = if c < t.col then (true, rPush (rIns (rUn m) 123) ⟨1, t.col, m.word, false⟩) else (false, rWait (rIns (rIns (rUn m) 123) 125) m.word) := by
  unfold rOpen
  rw [hx, h1]
  simp only [h2, hc, Bool.not_true, Bool.false_eq_true, if_false]
  rfl
theorem rWait_sz (m : RM) (s : ByteArray) : (rWait m s).stack.length ≤ m.stack.length + 1 ∧ (rWait m s).out = m.out := by
  unfold rWait
  split
  · exact ⟨by show (m.stack ++ _).length ≤ _; simp, rfl⟩
  · exact ⟨by omega, rfl⟩
theorem rIns_len (m : RM) (c : UInt8) : (rIns m c).out.length = m.out.length + 1 := by show (m.out ++ _).length = _; simp
theorem rOpen_sz (m : RM) (t : Tok) : (rOpen m t).2.stack.length ≤ m.stack.length + 1 ∧ (rOpen m t).2.out.length ≤ m.out.length + 2 := by
  cases hx : m.expects
  · rw [rOpen_no t hx]; exact ⟨by show m.stack.length ≤ _; omega, by show m.out.length ≤ _; omega⟩
  cases h1 : spT t [123]
  case true => rw [rOpen_sp hx h1]; exact ⟨by show m.stack.length ≤ _; omega, by show m.out.length ≤ _; omega⟩
  cases h2 : (m.word.data.toList.isEmpty && wdT t bModule)
  case true => rw [rOpen_mod hx h1 h2]; exact ⟨by show m.stack.length ≤ _; omega, by show m.out.length ≤ _; omega⟩
  rw [rOpen_col hx h1 h2 rfl]
  split
  · refine ⟨by show (m.stack ++ _).length ≤ _; simp, ?_⟩
    show (rIns (rUn m) 123).out.length ≤ _
    rw [rIns_len]; show m.out.length + 1 ≤ _; omega
  · obtain ⟨h3, h4⟩ := rWait_sz (rIns (rIns (rUn m) 123) 125) m.word
    refine ⟨h3, ?_⟩
    show (rWait (rIns (rIns (rUn m) 123) 125) m.word).out.length ≤ _
    rw [h4, rIns_len, rIns_len]; show m.out.length + 1 + 1 ≤ _; omega
theorem rBegC_at {l : List REl} {i : Nat} {e : REl} (h : rBlk l = (i : Int)) (hg : getR l (rBlk l) = some e) : rBegC l = if e.form == 1 then e.col else 0 := by
  unfold rBegC; rw [hg]
theorem rBegC_no {l : List REl} (hg : getR l (rBlk l) = none) : rBegC l = 0 := by
  unfold rBegC; rw [hg]
section
variable {w w' : World} {b : Nat} {vs vo : Value} {m : RM} {li : Int} {fi : Bool} {F : RF}
theorem MS.unexp (h : MS w b vs vo m li fi F) : MS (w.setCell ⟨b, 2, none⟩ (.bool false)) b vs vo (rUn m) li fi F := MS.put (k := 2) (v := .bool false) (vs' := vs) (vo' := vo) (m' := rUn m) (li' := li) (fi' := fi) (F' := F) h.blk rfl h.els h.out
theorem MS.pr (h : MS w b vs vo m li fi F) {w' : World} {g : Nat} (hg : w.heap.size ≤ g) (hl : g < w'.heap.size) : Pr w' b vs vo g :=
  ⟨hl, by have := h.lt; omega, fun e => by have := (World.ownsRow.lt h.els g e).2; omega, fun e => by have := (World.ownsRow.lt h.out g e).2; omega⟩
/-- What open leaves. -/
def OpR (w : World) (b : Nat) (vs vo : Value) (m : RM) (t : Tok) (li : Int) (fi : Bool) (F : RF) (r : Ending) (w' : World) : Prop := r = .returned (.bool (rOpen m t).1) ∧ MSx w b vs vo (rOpen m t).2 li fi F w'
theorem unexp_tb (w : World) (b : Nat) (t : Tok) : TB ((w.setCell ⟨b, 2, none⟩ (.bool false)).alloc (.cells (tokA t) 33)) w.heap.size t := new_at _ (by simp [World.setCell])
theorem unexp_sz (w : World) (b : Nat) (t : Tok) : ((w.setCell ⟨b, 2, none⟩ (.bool false)).alloc (.cells (tokA t) 33)).heap.size = w.heap.size + 1 := by
  show (Array.push _ _).size = _
  rw [Array.size_push]
  simp [World.setCell]
theorem unexp_frm (w : World) (b : Nat) (vs vo : Value) (t : Tok) : Frm w b vs vo ((w.setCell ⟨b, 2, none⟩ (.bool false)).alloc (.cells (tokA t) 33)) vs vo :=
  (Frm.here (Only.setCell (K := (· = b)) (Only.refl _ _) rfl _) rfl).trans (Frm.keep (Only.alloc (Only.refl _ _) _))
set_option maxRecDepth 100000 in
set_option maxHeartbeats 8000000 in
theorem ropen_no (h : MS w b vs vo m li fi F) (t : Tok) (hx : m.expects = false) : Calls Try.prog 28 #[.pointer (some ⟨b, 0, none⟩), tokV t] w (OpR w b vs vo m t li fi F) := by
  have hA : Only (fun _ => False) w (w.alloc (.cells (tokA t) 33)) := (Only.refl _ _).alloc _
  have h0 := h.same hA
  have hbl := h.lt
  have c2 := h.c2
  rw [hx] at c2
  have HR := Lib.hid (rOpen_no t hx)
  clear hx
  go_enter Try.func28, Try.ntmps28
  go_wp2
  go_ret
  unfold OpR
  rw [HR.out]
  exact ⟨rfl, h0.x (Frm.keep hA)⟩
set_option maxRecDepth 100000 in
set_option maxHeartbeats 8000000 in
theorem ropen_sp (h : MS w b vs vo m li fi F) (t : Tok) (hx : m.expects = true) (h1 : spT t [123] = true) : Calls Try.prog 28 #[.pointer (some ⟨b, 0, none⟩), tokV t] w (OpR w b vs vo m t li fi F) := by
  have HR := Lib.hid (rOpen_sp hx h1)
  have hbl := h.lt
  have hE := h.unexp
  have h0 := hE.same (Only.alloc (Only.refl (fun _ => False) _) (.cells (tokA t) 33))
  have t0 := unexp_tb w b t
  have hp0 : Pr ((w.setCell ⟨b, 2, none⟩ (.bool false)).alloc (.cells (tokA t) 33)) b vs vo w.heap.size := h.pr (Nat.le_refl _) (by rw [unexp_sz]; omega)
  have hf0 := unexp_frm w b vs vo t
  have c2 := h.c2
  rw [hx] at c2
  have z2 := h.fz 2
  have H1 := Lib.hid h1
  clear h1 hx
  go_enter Try.func28, Try.ntmps28
  go_wp2_with (go_at_call 47; ((with_reducible refine (rspecial_v t [123] _ _ H1.out).mono ?_); rintro r w1 ⟨rfl, hO1⟩; have hS1 := h0.same hO1; have hT1 := t0.same hO1; have hP1 := (hp0.frm (Frm.keep hO1)).1; have hF1 := hf0.trans (Frm.keep hO1); have c3 : w1.cell? ⟨b, 3, none⟩ = some (.string m.word) := hS1.c3; obtain ⟨e0, e1, e2, e3, e4, e5, e6⟩ := hT1.all))
  go_ret
  unfold OpR
  rw [HR.out]
  exact ⟨rfl, hS1.x hF1⟩
set_option maxRecDepth 100000 in
set_option maxHeartbeats 8000000 in
theorem ropen_mod (h : MS w b vs vo m li fi F) (t : Tok) (hx : m.expects = true) (h1 : spT t [123] = false) (hw : m.word.data.toList.isEmpty = true) (h2 : wdT t [109, 111, 100, 117, 108, 101] = true) : Calls Try.prog 28 #[.pointer (some ⟨b, 0, none⟩), tokV t] w (OpR w b vs vo m t li fi F) := by
  have HR := Lib.hid (rOpen_mod (t := t) hx h1 (by rw [hw]; exact h2))
  have hbl := h.lt
  have hE := h.unexp
  have h0 := hE.same (Only.alloc (Only.refl (fun _ => False) _) (.cells (tokA t) 33))
  have t0 := unexp_tb w b t
  have hp0 : Pr ((w.setCell ⟨b, 2, none⟩ (.bool false)).alloc (.cells (tokA t) 33)) b vs vo w.heap.size := h.pr (Nat.le_refl _) (by rw [unexp_sz]; omega)
  have hf0 := unexp_frm w b vs vo t
  have c2 := h.c2
  rw [hx] at c2
  have z2 := h.fz 2
  have H1 := Lib.hid h1
  have H2 := Lib.hid h2
  have HT := Lib.hid (Lib.toList_data m.word)
  have hw1 : (m.word.toList == []) = true := by rw [HT.out]; cases hh : m.word.data.toList with
    | nil => rfl
    | cons _ _ => rw [hh] at hw; cases hw
  have hw2 : m.word.toList.isEmpty = true := by rw [HT.out]; exact hw
  clear h1 h2 hx hw
  go_enter Try.func28, Try.ntmps28
  go_wp2_with (first | (go_at_call 47; ((with_reducible refine (rspecial_v t [123] _ _ H1.out).mono ?_); rintro r w1 ⟨rfl, hO1⟩; have hS1 := h0.same hO1; have hT1 := t0.same hO1; have hP1 := (hp0.frm (Frm.keep hO1)).1; have hF1 := hf0.trans (Frm.keep hO1); have c3 : w1.cell? ⟨b, 3, none⟩ = some (.string m.word) := hS1.c3; obtain ⟨e0, e1, e2, e3, e4, e5, e6⟩ := hT1.all)) | (go_at_call 48; ((with_reducible refine (rword_v t [109, 111, 100, 117, 108, 101] _ _ H2.out).mono ?_); rintro r w2 ⟨rfl, hO2⟩; have hS2 := hS1.same hO2; have hT2 := hT1.same hO2; have hP2 := (hP1.frm (Frm.keep hO2)).1; have hF2 := hF1.trans (Frm.keep hO2))))
  go_ret
  unfold OpR
  rw [HR.out]
  exact ⟨rfl, hS2.x hF2⟩
end
end Go.Proofs.Ythblchafjmgmbaa
