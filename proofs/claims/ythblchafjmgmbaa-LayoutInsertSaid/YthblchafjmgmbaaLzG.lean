/-
  WALKS. The reference's machine: specials.
-/
import Derived.Test.YthblchafjmgmbaaLzF
namespace Go.Proofs.Ythblchafjmgmbaa
open Go.RowKit Go.Maps
section
variable {w w' : World} {b : Nat} {vs vo : Value} {m : RM} {li : Int} {fi : Bool} {F : RF}
theorem ReR.pre {w1 : World} {t : Tok} {R : Option RM} {r : Ending} (h : ReR w1 b vs vo li fi F t R r w') (ho : Only (fun _ => False) w w1) : ReR w b vs vo li fi F t R r w' := by
  refine ⟨h.1, ?_⟩
  have h2 := h.2
  cases R with
  | none => obtain ⟨mm, hl, h3⟩ := h2; exact ⟨mm, hl, h3.pre ho⟩
  | some m' => exact MSx.pre h2 ho
set_option maxRecDepth 100000 in
set_option maxHeartbeats 8000000 in
theorem rspecials_p (h : MS w b vs vo m li fi F) (hk : m.stack.length + m.out.length + cnt m.stack + 1 ≤ 1000000000000) (t : Tok) (s : ByteArray) : Calls Try.prog 31 #[.pointer (some ⟨b, 0, none⟩), tokV t, .string s] w (ReR w b vs vo li fi F t (rSpecials m t s)) := by
  have hb := h.lt
  have hA : Only (fun _ => False) w (w.alloc (.cells (tokA t) 33)) := (Only.refl _ _).alloc _
  have h0 := h.same hA
  have hsz : Sz 1 m := by unfold Sz; omega
  have hcl : cnt m.stack ≤ 2 * m.stack.length + 2 := by have := cnt_le m.stack; omega
  have ht := Lib.toList_data t.text
  cases q0 : tx t.text [40]
  case true =>
    have b0 : (t.text.toList == [40]) = true := by rw [ht]; exact q0
    have HR : Hid (rSpecials m t s = some (rPush m ⟨3, 0, ⟨#[]⟩, false⟩)) := Lib.hid (by unfold rSpecials; simp only [q0, Bool.false_eq_true, if_false, if_true])
    clear ht q0
    go_enter Try.func31, Try.ntmps31
    go_wp2_with (go_at_call 50; refine (rpush_p h0 hsz.rm ⟨3, 0, ⟨#[]⟩, false⟩).mono ?_; rintro r w1 ⟨rfl, vs1, hS1, hF1⟩)
    go_end0
    rw [HR.out]
    exact ⟨rfl, hS1.x ((Frm.keep hA).trans hF1)⟩
  have b0 : (t.text.toList == [40]) = false := by rw [ht]; exact q0
  cases q1 : tx t.text [91]
  case true =>
    have b1 : (t.text.toList == [91]) = true := by rw [ht]; exact q1
    have HR : Hid (rSpecials m t s = some (rPush m ⟨4, 0, ⟨#[]⟩, false⟩)) := Lib.hid (by unfold rSpecials; simp only [q0, q1, Bool.false_eq_true, if_false, if_true])
    clear ht q0 q1
    go_enter Try.func31, Try.ntmps31
    go_wp2_with (go_at_call 50; refine (rpush_p h0 hsz.rm ⟨4, 0, ⟨#[]⟩, false⟩).mono ?_; rintro r w1 ⟨rfl, vs1, hS1, hF1⟩)
    go_end0
    rw [HR.out]
    exact ⟨rfl, hS1.x ((Frm.keep hA).trans hF1)⟩
  have b1 : (t.text.toList == [91]) = false := by rw [ht]; exact q1
  cases q2 : tx t.text [123]
  case true =>
    have b2 : (t.text.toList == [123]) = true := by rw [ht]; exact q2
    have HR : Hid (rSpecials m t s = some (rPush m ⟨2, 0, s, false⟩)) := Lib.hid (by unfold rSpecials; simp only [q0, q1, q2, Bool.false_eq_true, if_false, if_true])
    clear ht q0 q1 q2
    go_enter Try.func31, Try.ntmps31
    go_wp2_with (go_at_call 50; refine (rpush_p h0 hsz.rm ⟨2, 0, s, false⟩).mono ?_; rintro r w1 ⟨rfl, vs1, hS1, hF1⟩)
    go_end0
    rw [HR.out]
    exact ⟨rfl, hS1.x ((Frm.keep hA).trans hF1)⟩
  have b2 : (t.text.toList == [123]) = false := by rw [ht]; exact q2
  cases q3 : tx t.text [41]
  case true =>
    have b3 : (t.text.toList == [41]) = true := by rw [ht]; exact q3
    have HR : Hid (rSpecials m t s = rCloses m 3) := Lib.hid (by unfold rSpecials; simp only [q0, q1, q2, q3, Bool.false_eq_true, if_false, if_true])
    clear ht q0 q1 q2 q3
    go_enter Try.func31, Try.ntmps31
    go_wp2_with (go_at_call 54; refine (rcloses_p h0 hsz t 3).mono ?_; rintro r w1 ⟨rfl, hC⟩)
    go_end0
    rw [HR.out]
    exact ReR.pre ⟨rfl, hC⟩ hA
  have b3 : (t.text.toList == [41]) = false := by rw [ht]; exact q3
  cases q4 : tx t.text [93]
  case true =>
    have b4 : (t.text.toList == [93]) = true := by rw [ht]; exact q4
    have HR : Hid (rSpecials m t s = rCloses m 4) := Lib.hid (by unfold rSpecials; simp only [q0, q1, q2, q3, q4, Bool.false_eq_true, if_false, if_true])
    clear ht q0 q1 q2 q3 q4
    go_enter Try.func31, Try.ntmps31
    go_wp2_with (go_at_call 54; refine (rcloses_p h0 hsz t 4).mono ?_; rintro r w1 ⟨rfl, hC⟩)
    go_end0
    rw [HR.out]
    exact ReR.pre ⟨rfl, hC⟩ hA
  have b4 : (t.text.toList == [93]) = false := by rw [ht]; exact q4
  cases q5 : tx t.text [125]
  case true =>
    have b5 : (t.text.toList == [125]) = true := by rw [ht]; exact q5
    have HR : Hid (rSpecials m t s = rCloses m 2) := Lib.hid (by unfold rSpecials; simp only [q0, q1, q2, q3, q4, q5, Bool.false_eq_true, if_false, if_true])
    clear ht q0 q1 q2 q3 q4 q5
    go_enter Try.func31, Try.ntmps31
    go_wp2_with (go_at_call 54; refine (rcloses_p h0 hsz t 2).mono ?_; rintro r w1 ⟨rfl, hC⟩)
    go_end0
    rw [HR.out]
    exact ReR.pre ⟨rfl, hC⟩ hA
  have b5 : (t.text.toList == [125]) = false := by rw [ht]; exact q5
  cases q6 : tx t.text [44]
  case true =>
    have b6 : (t.text.toList == [44]) = true := by rw [ht]; exact q6
    have HR : Hid (rSpecials m t s = some (rComma (2 * m.stack.length + 2) m)) := Lib.hid (by unfold rSpecials; simp only [q0, q1, q2, q3, q4, q5, q6, Bool.false_eq_true, if_false, if_true])
    clear ht q0 q1 q2 q3 q4 q5 q6
    go_enter Try.func31, Try.ntmps31
    go_wp2_with (go_at_call 55; refine (rcomma_p h0 hk _ hcl).mono ?_; rintro r w1 ⟨rfl, hC⟩)
    go_end0
    rw [HR.out]
    exact ⟨rfl, MSx.pre hC hA⟩
  have b6 : (t.text.toList == [44]) = false := by rw [ht]; exact q6
  cases q7 : tx t.text [59]
  case true =>
    have b7 : (t.text.toList == [59]) = true := by rw [ht]; exact q7
    have HR : Hid (rSpecials m t s = some (rMark m false)) := Lib.hid (by unfold rSpecials; simp only [q0, q1, q2, q3, q4, q5, q6, q7, Bool.false_eq_true, if_false, if_true])
    clear ht q0 q1 q2 q3 q4 q5 q6 q7
    go_enter Try.func31, Try.ntmps31
    go_wp2_with (go_at_call 33; refine (rmark_p h0 (hsz.less (Nat.zero_le 1)).rm false).mono ?_; rintro r w1 ⟨rfl, hC⟩)
    go_end0
    rw [HR.out]
    exact ⟨rfl, MSx.pre hC hA⟩
  have b7 : (t.text.toList == [59]) = false := by rw [ht]; exact q7
  have HR : Hid (rSpecials m t s = some m) := Lib.hid (by unfold rSpecials; simp only [q0, q1, q2, q3, q4, q5, q6, q7, Bool.false_eq_true, if_false, if_true])
  clear ht q0 q1 q2 q3 q4 q5 q6 q7
  go_enter Try.func31, Try.ntmps31
  go_wp2
  go_end0
  rw [HR.out]
  exact ⟨rfl, h0.x (Frm.keep hA)⟩
end
end Go.Proofs.Ythblchafjmgmbaa
