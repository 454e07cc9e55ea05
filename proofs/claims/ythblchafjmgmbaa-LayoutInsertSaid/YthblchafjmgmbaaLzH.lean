/-
  WALKS. The reference's machine: words.
-/
import Derived.Test.YthblchafjmgmbaaLzG
namespace Go.Proofs.Ythblchafjmgmbaa
open Go.RowKit Go.Maps
section
variable {w w' : World} {b : Nat} {vs vo : Value} {m : RM} {li : Int} {fi : Bool} {F : RF}
theorem MS.box (h : MS w b vs vo m li fi F) {t : Tok} {w1 : World} {vs1 vo1 : Value} (hF : Frm (w.alloc (.cells (tokA t) 33)) b vs vo w1 vs1 vo1) : w1.cell? ⟨w.heap.size, 2, none⟩ = some (.string t.text) := by
  have hlt := h.lt
  have hb : TB w1 w.heap.size t := by
    refine (hF.only.block w.heap.size (by show _ < (w.heap.push _).size; rw [Array.size_push]; omega) (fun hc => ?_)).trans (new_block _ _)
    rcases hc with hc | hc | hc
    · omega
    · have := (World.ownsRow.lt h.els _ hc).2; omega
    · have := (World.ownsRow.lt h.out _ hc).2; omega
  exact hb.c2
/-- The machine expects a block after a word. -/
theorem MS.expect (h : MS w b vs vo m li fi F) (wd : ByteArray) : MS ((w.setCell ⟨b, 2, none⟩ (.bool true)).setCell ⟨b, 3, none⟩ (.string wd)) b vs vo { m with expects := true, word := wd } li fi F := by
  have h1 := MS.put (k := 2) (v := .bool true) (vs' := vs) (vo' := vo) (m' := { m with expects := true }) (li' := li) (fi' := fi) (F' := F) h.blk rfl h.els h.out
  exact MS.put (k := 3) (v := .string wd) (vs' := vs) (vo' := vo) (m' := { m with expects := true, word := wd }) (li' := li) (fi' := fi) (F' := F) h1.blk rfl h1.els h1.out
set_option maxRecDepth 100000 in
set_option maxHeartbeats 8000000 in
theorem rwords_p (h : MS w b vs vo m li fi F) (hk : Sz 1 m) (t : Tok) (h9 : (t.op == 9) = true) : Calls Try.prog 32 #[.pointer (some ⟨b, 0, none⟩), tokV t] w (ReR w b vs vo li fi F t (rWords m t)) := by
  have hb := h.lt
  have hA : Only (fun _ => False) w (w.alloc (.cells (tokA t) 33)) := (Only.refl _ _).alloc _
  have h0 := h.same hA
  have c2 := h.c2
  have c3 := h.c3
  have z2 := h.fz 2
  have z3 := h.fz 3
  have IS0 : ∀ {m' : RM} {wx : World}, MS wx b vs vo m' li fi F → ∀ (o : Obj), Only (· = b) w wx → MSx w b vs vo m' li fi F (wx.alloc o) := fun hM o ho => (hM.same ((Only.refl _ _).alloc o)).x (Frm.here (ho.alloc o) rfl)
  have ht := Lib.toList_data t.text
  have HT : ∀ L, tx t.text L = (t.text.toList == L) := fun L => by rw [ht]; rfl
  cases q0 : tx t.text bCase
  case true =>
    have hl : t.text.toList = [99, 97, 115, 101] := by rw [HT] at q0; exact eq_of_beq q0
    clear q0
    have b0 : (t.text.toList == [99, 97, 115, 101]) = true := by rw [hl]; rfl
    have x0 : tx t.text bCase = true := by rw [HT]; exact b0
    have b1 : (t.text.toList == [105, 102]) = false := by rw [hl]; rfl
    have x1 : tx t.text bIf = false := by rw [HT]; exact b1
    have b2 : (t.text.toList == [111, 102]) = false := by rw [hl]; rfl
    have x2 : tx t.text bOf = false := by rw [HT]; exact b2
    have b3 : (t.text.toList == [116, 104, 101, 110]) = false := by rw [hl]; rfl
    have x3 : tx t.text bThen = false := by rw [HT]; exact b3
    have b4 : (t.text.toList == [101, 108, 115, 101]) = false := by rw [hl]; rfl
    have x4 : tx t.text bElse = false := by rw [HT]; exact b4
    have b5 : (t.text.toList == [105, 110]) = false := by rw [hl]; rfl
    have x5 : tx t.text bIn = false := by rw [HT]; exact b5
    have b6 : (t.text.toList == [119, 104, 101, 114, 101]) = false := by rw [hl]; rfl
    have x6 : tx t.text bWhere = false := by rw [HT]; exact b6
    have b7 : (t.text.toList == [108, 101, 116]) = false := by rw [hl]; rfl
    have x7 : tx t.text bLet = false := by rw [HT]; exact b7
    have b8 : (t.text.toList == [100, 111]) = false := by rw [hl]; rfl
    have x8 : tx t.text bDo = false := by rw [HT]; exact b8
    have hE : t.text = bCaseA := ByteArray.ext (Array.toList_inj.mp (by rw [← ht]; exact hl))
    have HR : Hid (rWords m t = some (rPush m ⟨5, 0, t.text, false⟩)) := Lib.hid (by unfold rWords opens; simp only [x0, x1, x2, x3, x4, x5, x6, x7, x8, h9, Bool.and_true, Bool.true_and, Bool.and_false, Bool.or_false, Bool.false_or, Bool.or_true, Bool.true_or, Bool.false_eq_true, if_false, if_true, Option.map_some]; rw [hE])
    clear HT ht x0 x1 x2 x3 x4 x5 x6 x7 x8 hl hE
    go_enter Try.func32, Try.ntmps32
    go_wp2_with (go_at_call 50; refine (rpush_p h0 hk.rm ⟨5, 0, t.text, false⟩).mono ?_; rintro r w1 ⟨rfl, vs1, hS1, hF1⟩; have d2 := h.box hF1)
    go_end0
    rw [HR.out]
    exact ⟨rfl, hS1.x ((Frm.keep hA).trans hF1)⟩
  cases q1 : tx t.text bIf
  case true =>
    have hl : t.text.toList = [105, 102] := by rw [HT] at q1; exact eq_of_beq q1
    clear q1 q0
    have b0 : (t.text.toList == [99, 97, 115, 101]) = false := by rw [hl]; rfl
    have x0 : tx t.text bCase = false := by rw [HT]; exact b0
    have b1 : (t.text.toList == [105, 102]) = true := by rw [hl]; rfl
    have x1 : tx t.text bIf = true := by rw [HT]; exact b1
    have b2 : (t.text.toList == [111, 102]) = false := by rw [hl]; rfl
    have x2 : tx t.text bOf = false := by rw [HT]; exact b2
    have b3 : (t.text.toList == [116, 104, 101, 110]) = false := by rw [hl]; rfl
    have x3 : tx t.text bThen = false := by rw [HT]; exact b3
    have b4 : (t.text.toList == [101, 108, 115, 101]) = false := by rw [hl]; rfl
    have x4 : tx t.text bElse = false := by rw [HT]; exact b4
    have b5 : (t.text.toList == [105, 110]) = false := by rw [hl]; rfl
    have x5 : tx t.text bIn = false := by rw [HT]; exact b5
    have b6 : (t.text.toList == [119, 104, 101, 114, 101]) = false := by rw [hl]; rfl
    have x6 : tx t.text bWhere = false := by rw [HT]; exact b6
    have b7 : (t.text.toList == [108, 101, 116]) = false := by rw [hl]; rfl
    have x7 : tx t.text bLet = false := by rw [HT]; exact b7
    have b8 : (t.text.toList == [100, 111]) = false := by rw [hl]; rfl
    have x8 : tx t.text bDo = false := by rw [HT]; exact b8
    have hE : t.text = bIfA := ByteArray.ext (Array.toList_inj.mp (by rw [← ht]; exact hl))
    have HR : Hid (rWords m t = some (rPush m ⟨5, 0, t.text, false⟩)) := Lib.hid (by unfold rWords opens; simp only [x0, x1, x2, x3, x4, x5, x6, x7, x8, h9, Bool.and_true, Bool.true_and, Bool.and_false, Bool.or_false, Bool.false_or, Bool.or_true, Bool.true_or, Bool.false_eq_true, if_false, if_true, Option.map_some]; rw [hE])
    clear HT ht x0 x1 x2 x3 x4 x5 x6 x7 x8 hl hE
    go_enter Try.func32, Try.ntmps32
    go_wp2_with (go_at_call 50; refine (rpush_p h0 hk.rm ⟨5, 0, t.text, false⟩).mono ?_; rintro r w1 ⟨rfl, vs1, hS1, hF1⟩; have d2 := h.box hF1)
    go_end0
    rw [HR.out]
    exact ⟨rfl, hS1.x ((Frm.keep hA).trans hF1)⟩
  cases q2 : tx t.text bOf
  case true =>
    have hl : t.text.toList = [111, 102] := by rw [HT] at q2; exact eq_of_beq q2
    clear q2 q0 q1
    have b0 : (t.text.toList == [99, 97, 115, 101]) = false := by rw [hl]; rfl
    have x0 : tx t.text bCase = false := by rw [HT]; exact b0
    have b1 : (t.text.toList == [105, 102]) = false := by rw [hl]; rfl
    have x1 : tx t.text bIf = false := by rw [HT]; exact b1
    have b2 : (t.text.toList == [111, 102]) = true := by rw [hl]; rfl
    have x2 : tx t.text bOf = true := by rw [HT]; exact b2
    have b3 : (t.text.toList == [116, 104, 101, 110]) = false := by rw [hl]; rfl
    have x3 : tx t.text bThen = false := by rw [HT]; exact b3
    have b4 : (t.text.toList == [101, 108, 115, 101]) = false := by rw [hl]; rfl
    have x4 : tx t.text bElse = false := by rw [HT]; exact b4
    have b5 : (t.text.toList == [105, 110]) = false := by rw [hl]; rfl
    have x5 : tx t.text bIn = false := by rw [HT]; exact b5
    have b6 : (t.text.toList == [119, 104, 101, 114, 101]) = false := by rw [hl]; rfl
    have x6 : tx t.text bWhere = false := by rw [HT]; exact b6
    have b7 : (t.text.toList == [108, 101, 116]) = false := by rw [hl]; rfl
    have x7 : tx t.text bLet = false := by rw [HT]; exact b7
    have b8 : (t.text.toList == [100, 111]) = false := by rw [hl]; rfl
    have x8 : tx t.text bDo = false := by rw [HT]; exact b8
    cases hs : rSeek m [99, 97, 115, 101] with
    | none =>
      have HR : Hid (rWords m t = none) := Lib.hid (by unfold rWords opens; simp only [x0, x1, x2, x3, x4, x5, x6, x7, x8, h9, Bool.and_true, Bool.true_and, Bool.and_false, Bool.or_false, Bool.false_or, Bool.or_true, Bool.true_or, Bool.false_eq_true, if_false, if_true, Option.map_some]; rw [show rSeek m bCase = _ from hs]; rfl)
      have HS := Lib.hid hs
      clear HT ht x0 x1 x2 x3 x4 x5 x6 x7 x8 hl hs
      go_enter Try.func32, Try.ntmps32
      go_wp2_with (go_at_call 56; refine (rseek_case h0 hk t).mono ?_; rw [HS.out]; rintro r w1 ⟨rfl, hC⟩; obtain ⟨mm, hml, vs1, vo1, hS1, hF1⟩ := hC; have d2 := h.box hF1; have c2 := hS1.c2; have c3 := hS1.c3; have z2 := hS1.fz 2; have z3 := hS1.fz 3; have hlb := hS1.lt)
      go_end0
      rw [HR.out]
      exact ⟨rfl, ⟨{ mm with expects := true, word := t.text }, hml, (hS1.expect t.text).x (((Frm.keep hA).trans hF1).trans (Frm.here (((Only.refl _ _).setCell (K := (· = b)) rfl _).setCell rfl _) rfl))⟩⟩
    | some m1 =>
      have HR : Hid (rWords m t = some { m1 with expects := true, word := t.text }) := Lib.hid (by unfold rWords opens; simp only [x0, x1, x2, x3, x4, x5, x6, x7, x8, h9, Bool.and_true, Bool.true_and, Bool.and_false, Bool.or_false, Bool.false_or, Bool.or_true, Bool.true_or, Bool.false_eq_true, if_false, if_true, Option.map_some]; rw [show rSeek m bCase = _ from hs]; rfl)
      have HS := Lib.hid hs
      clear HT ht x0 x1 x2 x3 x4 x5 x6 x7 x8 hl hs
      go_enter Try.func32, Try.ntmps32
      go_wp2_with (go_at_call 56; refine (rseek_case h0 hk t).mono ?_; rw [HS.out]; rintro r w1 ⟨rfl, hC⟩; obtain ⟨vs1, vo1, hS1, hF1⟩ := hC; have d2 := h.box hF1; have c2 := hS1.c2; have c3 := hS1.c3; have z2 := hS1.fz 2; have z3 := hS1.fz 3; have hlb := hS1.lt)
      go_end0
      rw [HR.out]
      exact ⟨rfl, (hS1.expect t.text).x (((Frm.keep hA).trans hF1).trans (Frm.here (((Only.refl _ _).setCell (K := (· = b)) rfl _).setCell rfl _) rfl))⟩
  cases q3 : tx t.text bThen
  case true =>
    have hl : t.text.toList = [116, 104, 101, 110] := by rw [HT] at q3; exact eq_of_beq q3
    clear q3 q0 q1 q2
    have b0 : (t.text.toList == [99, 97, 115, 101]) = false := by rw [hl]; rfl
    have x0 : tx t.text bCase = false := by rw [HT]; exact b0
    have b1 : (t.text.toList == [105, 102]) = false := by rw [hl]; rfl
    have x1 : tx t.text bIf = false := by rw [HT]; exact b1
    have b2 : (t.text.toList == [111, 102]) = false := by rw [hl]; rfl
    have x2 : tx t.text bOf = false := by rw [HT]; exact b2
    have b3 : (t.text.toList == [116, 104, 101, 110]) = true := by rw [hl]; rfl
    have x3 : tx t.text bThen = true := by rw [HT]; exact b3
    have b4 : (t.text.toList == [101, 108, 115, 101]) = false := by rw [hl]; rfl
    have x4 : tx t.text bElse = false := by rw [HT]; exact b4
    have b5 : (t.text.toList == [105, 110]) = false := by rw [hl]; rfl
    have x5 : tx t.text bIn = false := by rw [HT]; exact b5
    have b6 : (t.text.toList == [119, 104, 101, 114, 101]) = false := by rw [hl]; rfl
    have x6 : tx t.text bWhere = false := by rw [HT]; exact b6
    have b7 : (t.text.toList == [108, 101, 116]) = false := by rw [hl]; rfl
    have x7 : tx t.text bLet = false := by rw [HT]; exact b7
    have b8 : (t.text.toList == [100, 111]) = false := by rw [hl]; rfl
    have x8 : tx t.text bDo = false := by rw [HT]; exact b8
    cases hs : rSeek m [105, 102] with
    | none =>
      have HR : Hid (rWords m t = none) := Lib.hid (by unfold rWords opens; simp only [x0, x1, x2, x3, x4, x5, x6, x7, x8, h9, Bool.and_true, Bool.true_and, Bool.and_false, Bool.or_false, Bool.false_or, Bool.or_true, Bool.true_or, Bool.false_eq_true, if_false, if_true, Option.map_some]; rw [show rSeek m bIf = _ from hs]; rfl)
      have HS := Lib.hid hs
      clear HT ht x0 x1 x2 x3 x4 x5 x6 x7 x8 hl hs
      go_enter Try.func32, Try.ntmps32
      go_wp2_with (go_at_call 56; refine (rseek_if h0 hk t).mono ?_; rw [HS.out]; rintro r w1 ⟨rfl, hC⟩; obtain ⟨mm, hml, vs1, vo1, hS1, hF1⟩ := hC; have d2 := h.box hF1)
      go_end0
      rw [HR.out]
      exact ⟨rfl, ⟨_, hml, hS1.x ((Frm.keep hA).trans hF1)⟩⟩
    | some m1 =>
      have HR : Hid (rWords m t = some m1) := Lib.hid (by unfold rWords opens; simp only [x0, x1, x2, x3, x4, x5, x6, x7, x8, h9, Bool.and_true, Bool.true_and, Bool.and_false, Bool.or_false, Bool.false_or, Bool.or_true, Bool.true_or, Bool.false_eq_true, if_false, if_true, Option.map_some]; rw [show rSeek m bIf = _ from hs]; rfl)
      have HS := Lib.hid hs
      clear HT ht x0 x1 x2 x3 x4 x5 x6 x7 x8 hl hs
      go_enter Try.func32, Try.ntmps32
      go_wp2_with (go_at_call 56; refine (rseek_if h0 hk t).mono ?_; rw [HS.out]; rintro r w1 ⟨rfl, hC⟩; obtain ⟨vs1, vo1, hS1, hF1⟩ := hC; have d2 := h.box hF1)
      go_end0
      rw [HR.out]
      exact ⟨rfl, hS1.x ((Frm.keep hA).trans hF1)⟩
  cases q4 : tx t.text bElse
  case true =>
    have hl : t.text.toList = [101, 108, 115, 101] := by rw [HT] at q4; exact eq_of_beq q4
    clear q4 q0 q1 q2 q3
    have b0 : (t.text.toList == [99, 97, 115, 101]) = false := by rw [hl]; rfl
    have x0 : tx t.text bCase = false := by rw [HT]; exact b0
    have b1 : (t.text.toList == [105, 102]) = false := by rw [hl]; rfl
    have x1 : tx t.text bIf = false := by rw [HT]; exact b1
    have b2 : (t.text.toList == [111, 102]) = false := by rw [hl]; rfl
    have x2 : tx t.text bOf = false := by rw [HT]; exact b2
    have b3 : (t.text.toList == [116, 104, 101, 110]) = false := by rw [hl]; rfl
    have x3 : tx t.text bThen = false := by rw [HT]; exact b3
    have b4 : (t.text.toList == [101, 108, 115, 101]) = true := by rw [hl]; rfl
    have x4 : tx t.text bElse = true := by rw [HT]; exact b4
    have b5 : (t.text.toList == [105, 110]) = false := by rw [hl]; rfl
    have x5 : tx t.text bIn = false := by rw [HT]; exact b5
    have b6 : (t.text.toList == [119, 104, 101, 114, 101]) = false := by rw [hl]; rfl
    have x6 : tx t.text bWhere = false := by rw [HT]; exact b6
    have b7 : (t.text.toList == [108, 101, 116]) = false := by rw [hl]; rfl
    have x7 : tx t.text bLet = false := by rw [HT]; exact b7
    have b8 : (t.text.toList == [100, 111]) = false := by rw [hl]; rfl
    have x8 : tx t.text bDo = false := by rw [HT]; exact b8
    cases hs : rSeek m [116, 104, 101, 110] with
    | none =>
      have HR : Hid (rWords m t = none) := Lib.hid (by unfold rWords opens; simp only [x0, x1, x2, x3, x4, x5, x6, x7, x8, h9, Bool.and_true, Bool.true_and, Bool.and_false, Bool.or_false, Bool.false_or, Bool.or_true, Bool.true_or, Bool.false_eq_true, if_false, if_true, Option.map_some]; rw [show rSeek m bThen = _ from hs]; rfl)
      have HS := Lib.hid hs
      clear HT ht x0 x1 x2 x3 x4 x5 x6 x7 x8 hl hs
      go_enter Try.func32, Try.ntmps32
      go_wp2_with (go_at_call 56; refine (rseek_then h0 hk t).mono ?_; rw [HS.out]; rintro r w1 ⟨rfl, hC⟩; obtain ⟨mm, hml, vs1, vo1, hS1, hF1⟩ := hC; have d2 := h.box hF1)
      go_end0
      rw [HR.out]
      exact ⟨rfl, ⟨_, hml, hS1.x ((Frm.keep hA).trans hF1)⟩⟩
    | some m1 =>
      have HR : Hid (rWords m t = some m1) := Lib.hid (by unfold rWords opens; simp only [x0, x1, x2, x3, x4, x5, x6, x7, x8, h9, Bool.and_true, Bool.true_and, Bool.and_false, Bool.or_false, Bool.false_or, Bool.or_true, Bool.true_or, Bool.false_eq_true, if_false, if_true, Option.map_some]; rw [show rSeek m bThen = _ from hs]; rfl)
      have HS := Lib.hid hs
      clear HT ht x0 x1 x2 x3 x4 x5 x6 x7 x8 hl hs
      go_enter Try.func32, Try.ntmps32
      go_wp2_with (go_at_call 56; refine (rseek_then h0 hk t).mono ?_; rw [HS.out]; rintro r w1 ⟨rfl, hC⟩; obtain ⟨vs1, vo1, hS1, hF1⟩ := hC; have d2 := h.box hF1)
      go_end0
      rw [HR.out]
      exact ⟨rfl, hS1.x ((Frm.keep hA).trans hF1)⟩
  cases q5 : tx t.text bIn
  case true =>
    have hl : t.text.toList = [105, 110] := by rw [HT] at q5; exact eq_of_beq q5
    clear q5 q0 q1 q2 q3 q4
    have b0 : (t.text.toList == [99, 97, 115, 101]) = false := by rw [hl]; rfl
    have x0 : tx t.text bCase = false := by rw [HT]; exact b0
    have b1 : (t.text.toList == [105, 102]) = false := by rw [hl]; rfl
    have x1 : tx t.text bIf = false := by rw [HT]; exact b1
    have b2 : (t.text.toList == [111, 102]) = false := by rw [hl]; rfl
    have x2 : tx t.text bOf = false := by rw [HT]; exact b2
    have b3 : (t.text.toList == [116, 104, 101, 110]) = false := by rw [hl]; rfl
    have x3 : tx t.text bThen = false := by rw [HT]; exact b3
    have b4 : (t.text.toList == [101, 108, 115, 101]) = false := by rw [hl]; rfl
    have x4 : tx t.text bElse = false := by rw [HT]; exact b4
    have b5 : (t.text.toList == [105, 110]) = true := by rw [hl]; rfl
    have x5 : tx t.text bIn = true := by rw [HT]; exact b5
    have b6 : (t.text.toList == [119, 104, 101, 114, 101]) = false := by rw [hl]; rfl
    have x6 : tx t.text bWhere = false := by rw [HT]; exact b6
    have b7 : (t.text.toList == [108, 101, 116]) = false := by rw [hl]; rfl
    have x7 : tx t.text bLet = false := by rw [HT]; exact b7
    have b8 : (t.text.toList == [100, 111]) = false := by rw [hl]; rfl
    have x8 : tx t.text bDo = false := by rw [HT]; exact b8
    cases hs : rSeek m [108, 101, 116] with
    | none =>
      have HR : Hid (rWords m t = none) := Lib.hid (by unfold rWords opens; simp only [x0, x1, x2, x3, x4, x5, x6, x7, x8, h9, Bool.and_true, Bool.true_and, Bool.and_false, Bool.or_false, Bool.false_or, Bool.or_true, Bool.true_or, Bool.false_eq_true, if_false, if_true, Option.map_some]; rw [show rSeek m bLet = _ from hs]; rfl)
      have HS := Lib.hid hs
      clear HT ht x0 x1 x2 x3 x4 x5 x6 x7 x8 hl hs
      go_enter Try.func32, Try.ntmps32
      go_wp2_with (go_at_call 56; refine (rseek_let h0 hk t).mono ?_; rw [HS.out]; rintro r w1 ⟨rfl, hC⟩; obtain ⟨mm, hml, vs1, vo1, hS1, hF1⟩ := hC; have d2 := h.box hF1)
      go_end0
      rw [HR.out]
      exact ⟨rfl, ⟨_, hml, hS1.x ((Frm.keep hA).trans hF1)⟩⟩
    | some m1 =>
      have HR : Hid (rWords m t = some m1) := Lib.hid (by unfold rWords opens; simp only [x0, x1, x2, x3, x4, x5, x6, x7, x8, h9, Bool.and_true, Bool.true_and, Bool.and_false, Bool.or_false, Bool.false_or, Bool.or_true, Bool.true_or, Bool.false_eq_true, if_false, if_true, Option.map_some]; rw [show rSeek m bLet = _ from hs]; rfl)
      have HS := Lib.hid hs
      clear HT ht x0 x1 x2 x3 x4 x5 x6 x7 x8 hl hs
      go_enter Try.func32, Try.ntmps32
      go_wp2_with (go_at_call 56; refine (rseek_let h0 hk t).mono ?_; rw [HS.out]; rintro r w1 ⟨rfl, hC⟩; obtain ⟨vs1, vo1, hS1, hF1⟩ := hC; have d2 := h.box hF1)
      go_end0
      rw [HR.out]
      exact ⟨rfl, hS1.x ((Frm.keep hA).trans hF1)⟩
  cases q6 : tx t.text bWhere
  case true =>
    have hl : t.text.toList = [119, 104, 101, 114, 101] := by rw [HT] at q6; exact eq_of_beq q6
    clear q6 q0 q1 q2 q3 q4 q5
    have b0 : (t.text.toList == [99, 97, 115, 101]) = false := by rw [hl]; rfl
    have x0 : tx t.text bCase = false := by rw [HT]; exact b0
    have b1 : (t.text.toList == [105, 102]) = false := by rw [hl]; rfl
    have x1 : tx t.text bIf = false := by rw [HT]; exact b1
    have b2 : (t.text.toList == [111, 102]) = false := by rw [hl]; rfl
    have x2 : tx t.text bOf = false := by rw [HT]; exact b2
    have b3 : (t.text.toList == [116, 104, 101, 110]) = false := by rw [hl]; rfl
    have x3 : tx t.text bThen = false := by rw [HT]; exact b3
    have b4 : (t.text.toList == [101, 108, 115, 101]) = false := by rw [hl]; rfl
    have x4 : tx t.text bElse = false := by rw [HT]; exact b4
    have b5 : (t.text.toList == [105, 110]) = false := by rw [hl]; rfl
    have x5 : tx t.text bIn = false := by rw [HT]; exact b5
    have b6 : (t.text.toList == [119, 104, 101, 114, 101]) = true := by rw [hl]; rfl
    have x6 : tx t.text bWhere = true := by rw [HT]; exact b6
    have b7 : (t.text.toList == [108, 101, 116]) = false := by rw [hl]; rfl
    have x7 : tx t.text bLet = false := by rw [HT]; exact b7
    have b8 : (t.text.toList == [100, 111]) = false := by rw [hl]; rfl
    have x8 : tx t.text bDo = false := by rw [HT]; exact b8
    have HR : Hid (rWords m t = some { m with expects := true, word := t.text }) := Lib.hid (by unfold rWords opens; simp only [x0, x1, x2, x3, x4, x5, x6, x7, x8, h9, Bool.and_true, Bool.true_and, Bool.and_false, Bool.or_false, Bool.false_or, Bool.or_true, Bool.true_or, Bool.false_eq_true, if_false, if_true, Option.map_some])
    clear HT ht x0 x1 x2 x3 x4 x5 x6 x7 x8 hl
    go_enter Try.func32, Try.ntmps32
    go_wp2
    go_end0
    rw [HR.out]
    exact ⟨rfl, IS0 (h.expect t.text) _ (((Only.refl _ _).setCell (K := (· = b)) rfl _).setCell rfl _)⟩
  cases q7 : tx t.text bLet
  case true =>
    have hl : t.text.toList = [108, 101, 116] := by rw [HT] at q7; exact eq_of_beq q7
    clear q7 q0 q1 q2 q3 q4 q5 q6
    have b0 : (t.text.toList == [99, 97, 115, 101]) = false := by rw [hl]; rfl
    have x0 : tx t.text bCase = false := by rw [HT]; exact b0
    have b1 : (t.text.toList == [105, 102]) = false := by rw [hl]; rfl
    have x1 : tx t.text bIf = false := by rw [HT]; exact b1
    have b2 : (t.text.toList == [111, 102]) = false := by rw [hl]; rfl
    have x2 : tx t.text bOf = false := by rw [HT]; exact b2
    have b3 : (t.text.toList == [116, 104, 101, 110]) = false := by rw [hl]; rfl
    have x3 : tx t.text bThen = false := by rw [HT]; exact b3
    have b4 : (t.text.toList == [101, 108, 115, 101]) = false := by rw [hl]; rfl
    have x4 : tx t.text bElse = false := by rw [HT]; exact b4
    have b5 : (t.text.toList == [105, 110]) = false := by rw [hl]; rfl
    have x5 : tx t.text bIn = false := by rw [HT]; exact b5
    have b6 : (t.text.toList == [119, 104, 101, 114, 101]) = false := by rw [hl]; rfl
    have x6 : tx t.text bWhere = false := by rw [HT]; exact b6
    have b7 : (t.text.toList == [108, 101, 116]) = true := by rw [hl]; rfl
    have x7 : tx t.text bLet = true := by rw [HT]; exact b7
    have b8 : (t.text.toList == [100, 111]) = false := by rw [hl]; rfl
    have x8 : tx t.text bDo = false := by rw [HT]; exact b8
    have HR : Hid (rWords m t = some { m with expects := true, word := t.text }) := Lib.hid (by unfold rWords opens; simp only [x0, x1, x2, x3, x4, x5, x6, x7, x8, h9, Bool.and_true, Bool.true_and, Bool.and_false, Bool.or_false, Bool.false_or, Bool.or_true, Bool.true_or, Bool.false_eq_true, if_false, if_true, Option.map_some])
    clear HT ht x0 x1 x2 x3 x4 x5 x6 x7 x8 hl
    go_enter Try.func32, Try.ntmps32
    go_wp2
    go_end0
    rw [HR.out]
    exact ⟨rfl, IS0 (h.expect t.text) _ (((Only.refl _ _).setCell (K := (· = b)) rfl _).setCell rfl _)⟩
  cases q8 : tx t.text bDo
  case true =>
    have hl : t.text.toList = [100, 111] := by rw [HT] at q8; exact eq_of_beq q8
    clear q8 q0 q1 q2 q3 q4 q5 q6 q7
    have b0 : (t.text.toList == [99, 97, 115, 101]) = false := by rw [hl]; rfl
    have x0 : tx t.text bCase = false := by rw [HT]; exact b0
    have b1 : (t.text.toList == [105, 102]) = false := by rw [hl]; rfl
    have x1 : tx t.text bIf = false := by rw [HT]; exact b1
    have b2 : (t.text.toList == [111, 102]) = false := by rw [hl]; rfl
    have x2 : tx t.text bOf = false := by rw [HT]; exact b2
    have b3 : (t.text.toList == [116, 104, 101, 110]) = false := by rw [hl]; rfl
    have x3 : tx t.text bThen = false := by rw [HT]; exact b3
    have b4 : (t.text.toList == [101, 108, 115, 101]) = false := by rw [hl]; rfl
    have x4 : tx t.text bElse = false := by rw [HT]; exact b4
    have b5 : (t.text.toList == [105, 110]) = false := by rw [hl]; rfl
    have x5 : tx t.text bIn = false := by rw [HT]; exact b5
    have b6 : (t.text.toList == [119, 104, 101, 114, 101]) = false := by rw [hl]; rfl
    have x6 : tx t.text bWhere = false := by rw [HT]; exact b6
    have b7 : (t.text.toList == [108, 101, 116]) = false := by rw [hl]; rfl
    have x7 : tx t.text bLet = false := by rw [HT]; exact b7
    have b8 : (t.text.toList == [100, 111]) = true := by rw [hl]; rfl
    have x8 : tx t.text bDo = true := by rw [HT]; exact b8
    have HR : Hid (rWords m t = some { m with expects := true, word := t.text }) := Lib.hid (by unfold rWords opens; simp only [x0, x1, x2, x3, x4, x5, x6, x7, x8, h9, Bool.and_true, Bool.true_and, Bool.and_false, Bool.or_false, Bool.false_or, Bool.or_true, Bool.true_or, Bool.false_eq_true, if_false, if_true, Option.map_some])
    clear HT ht x0 x1 x2 x3 x4 x5 x6 x7 x8 hl
    go_enter Try.func32, Try.ntmps32
    go_wp2
    go_end0
    rw [HR.out]
    exact ⟨rfl, IS0 (h.expect t.text) _ (((Only.refl _ _).setCell (K := (· = b)) rfl _).setCell rfl _)⟩
  have b0 : (t.text.toList == [99, 97, 115, 101]) = false := by rw [← HT]; exact q0
  have x0 : tx t.text bCase = false := q0
  have b1 : (t.text.toList == [105, 102]) = false := by rw [← HT]; exact q1
  have x1 : tx t.text bIf = false := q1
  have b2 : (t.text.toList == [111, 102]) = false := by rw [← HT]; exact q2
  have x2 : tx t.text bOf = false := q2
  have b3 : (t.text.toList == [116, 104, 101, 110]) = false := by rw [← HT]; exact q3
  have x3 : tx t.text bThen = false := q3
  have b4 : (t.text.toList == [101, 108, 115, 101]) = false := by rw [← HT]; exact q4
  have x4 : tx t.text bElse = false := q4
  have b5 : (t.text.toList == [105, 110]) = false := by rw [← HT]; exact q5
  have x5 : tx t.text bIn = false := q5
  have b6 : (t.text.toList == [119, 104, 101, 114, 101]) = false := by rw [← HT]; exact q6
  have x6 : tx t.text bWhere = false := q6
  have b7 : (t.text.toList == [108, 101, 116]) = false := by rw [← HT]; exact q7
  have x7 : tx t.text bLet = false := q7
  have b8 : (t.text.toList == [100, 111]) = false := by rw [← HT]; exact q8
  have x8 : tx t.text bDo = false := q8
  have HR : Hid (rWords m t = some m) := Lib.hid (by unfold rWords opens; simp only [x0, x1, x2, x3, x4, x5, x6, x7, x8, h9, Bool.and_true, Bool.true_and, Bool.and_false, Bool.or_false, Bool.false_or, Bool.or_true, Bool.true_or, Bool.false_eq_true, if_false, if_true, Option.map_some])
  clear HT ht x0 x1 x2 x3 x4 x5 x6 x7 x8 q0 q1 q2 q3 q4 q5 q6 q7 q8
  go_enter Try.func32, Try.ntmps32
  go_wp2
  go_end0
  rw [HR.out]
  exact ⟨rfl, h0.x (Frm.keep hA)⟩
end
end Go.Proofs.Ythblchafjmgmbaa
