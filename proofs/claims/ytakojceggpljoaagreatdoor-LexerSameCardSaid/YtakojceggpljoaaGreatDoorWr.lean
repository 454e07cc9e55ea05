/-
  WALKS. Render's writer: text, token; the text of a token.
-/
import Derived.Test.YtakojceggpljoaaGreatDoorShelf2
import Derived.Test.YtakojceggpljoaaGreatDoorPrt0
namespace Go.Proofs.YtakojceggpljoaaGreatDoor
open Go.RowKit Go.Maps
theorem lies3 : Lies 59 3 := by unfold Lies; kernel_rfl
/-- The writer at b: what it has written; the next place; is it the line's first? -/
structure WS where
  out : List UInt8
  line : Int
  col : Int
  first : Bool
def WB (w : World) (b B : Nat) (s : WS) : Prop := BB w b 59 [.int .i64 s.line, .int .i64 s.col, .bool s.first] B s.out
section
variable {w : World} {b B : Nat} {s : WS} {T : TypeId} {p x y z : Value} {l : List UInt8}
theorem BA.r2 (h : BA w b T [x, y, z] B p l) : w.cell? ⟨b, 2, none⟩ = some x := by obtain ⟨_, v, hb, _⟩ := h; simp [World.cell?, hb]
theorem BA.r3 (h : BA w b T [x, y, z] B p l) : w.cell? ⟨b, 3, none⟩ = some y := by obtain ⟨_, v, hb, _⟩ := h; simp [World.cell?, hb]
theorem BA.r4 (h : BA w b T [x, y, z] B p l) : w.cell? ⟨b, 4, none⟩ = some z := by obtain ⟨_, v, hb, _⟩ := h; simp [World.cell?, hb]
theorem BA.set2 (h : BA w b T [x, y, z] B p l) (q : Value) : BA (w.setCell ⟨b, 2, none⟩ q) b T [q, y, z] B p l := by
  obtain ⟨h1, v, h2, h3⟩ := h
  refine ⟨h1, v, ?_, h3.only (Only.setCell (k := 2) (Only.refl (· = b) w) rfl q) (fun i hi => by rw [hi]; exact h1)⟩
  simp [World.setCell, Array.getElem?_modify, h2]
theorem BA.set3 (h : BA w b T [x, y, z] B p l) (q : Value) : BA (w.setCell ⟨b, 3, none⟩ q) b T [x, q, z] B p l := by
  obtain ⟨h1, v, h2, h3⟩ := h
  refine ⟨h1, v, ?_, h3.only (Only.setCell (k := 3) (Only.refl (· = b) w) rfl q) (fun i hi => by rw [hi]; exact h1)⟩
  simp [World.setCell, Array.getElem?_modify, h2]
theorem BA.set4 (h : BA w b T [x, y, z] B p l) (q : Value) : BA (w.setCell ⟨b, 4, none⟩ q) b T [x, y, q] B p l := by
  obtain ⟨h1, v, h2, h3⟩ := h
  refine ⟨h1, v, ?_, h3.only (Only.setCell (k := 4) (Only.refl (· = b) w) rfl q) (fun i hi => by rw [hi]; exact h1)⟩
  simp [World.setCell, Array.getElem?_modify, h2]
theorem BB.only {w' : World} {rest : List Value} {K : Nat → Prop} (h : BB w b T rest B l) (ho : Only K w w') (hb : ¬ K b) (hk : ∀ i, K i → i < B) : BB w' b T rest B l :=
  h.elim (fun h => .inl (h.only ho hb hk)) (fun h => .inr (h.only ho hb hk))
theorem BB.keep {w' : World} {rest : List Value} (h : BB w b T rest B l) (ho : Only (fun _ => False) w w') : BB w' b T rest B l := h.only ho (fun h => h) (fun _ h => h.elim)
theorem BB.r2 (h : BB w b T [x, y, z] B l) : w.cell? ⟨b, 2, none⟩ = some x := h.elim BA.r2 BA.r2
theorem BB.r3 (h : BB w b T [x, y, z] B l) : w.cell? ⟨b, 3, none⟩ = some y := h.elim BA.r3 BA.r3
theorem BB.r4 (h : BB w b T [x, y, z] B l) : w.cell? ⟨b, 4, none⟩ = some z := h.elim BA.r4 BA.r4
theorem BB.fz {rest : List Value} (h : BB w b T rest B l) (k : Nat) : w.frozen? ⟨b, k, none⟩ = false := h.elim (fun h => h.fz k) (fun h => h.fz k)
theorem BB.set2 (h : BB w b T [x, y, z] B l) (q : Value) : BB (w.setCell ⟨b, 2, none⟩ q) b T [q, y, z] B l := h.elim (fun h => .inl (h.set2 q)) (fun h => .inr (h.set2 q))
theorem BB.set3 (h : BB w b T [x, y, z] B l) (q : Value) : BB (w.setCell ⟨b, 3, none⟩ q) b T [x, q, z] B l := h.elim (fun h => .inl (h.set3 q)) (fun h => .inr (h.set3 q))
theorem BB.set4 (h : BB w b T [x, y, z] B l) (q : Value) : BB (w.setCell ⟨b, 4, none⟩ q) b T [x, y, q] B l := h.elim (fun h => .inl (h.set4 q)) (fun h => .inr (h.set4 q))
/-- What the writer's calls leave. -/
def WPost (w : World) (b B : Nat) (s' : WS) (r : Ending) (w' : World) : Prop := r = .returned (.tuple #[]) ∧ WB w' b B s' ∧ Only (fun k => k = b ∨ B ≤ k) w w' ∧ Only (Fine w b) w w'
set_option maxRecDepth 100000 in
set_option maxHeartbeats 2000000 in
theorem wtext_p (h : WB w b B s) (t : ByteArray) (hlen : s.out.length + t.size ≤ 1000000000) (hBw : B ≤ w.heap.size) (hc0 : 0 ≤ s.col) (hc1 : s.col ≤ 1000000000) :
    Calls Tryz.prog 76 #[.pointer (some ⟨b, 0, none⟩), .string t] w (WPost w b B ⟨s.out ++ t.data.toList, s.line, s.col + t.size, s.first⟩) := by
  go_enter Tryz.func76, Tryz.ntmps76
  go_wp2_with (first | (go_at_call 74; refine (WriteString_p h lies3 t hlen hBw).mono ?_; rintro r w1 ⟨rfl, hA, hO, hFn⟩; have c3 := hA.r3; have z3 := hA.fz 3))
  go_end0
  exact ⟨rfl, .inr (hA.set3 _), Only.setCell (k := 3) hO (.inl rfl) _, Only.setCell (k := 3) hFn (.inl rfl) _⟩
end
/-- The text of a printable token. -/
def txB (t : Tok) : ByteArray :=
  if t.op = 5 then ⟨(Lib.itoa t.n).toArray⟩ else if t.op = 6 then qcB t.n else if t.op = 7 then ⟨(qtL 34 t.text.data.toList).toArray⟩
  else if t.qual.data.toList = [] then t.text else t.qual ++ ⟨#[46]⟩ ++ t.text
set_option maxRecDepth 100000 in
set_option maxHeartbeats 2000000 in
theorem textOf_plain (t : Tok) (W w : World) (hq : Q W w) (h5 : t.op ≠ 5) (h6 : t.op ≠ 6) (h7 : t.op ≠ 7) (hqu : t.qual.data.toList = []) :
    Calls Tryz.prog 77 #[tokV t] w fun e w' => e = .returned (.string (txB t)) ∧ Only (fun _ => False) w w' := by
  have e5 : (t.op == 5) = false := by simp [h5]
  have e6 : (t.op == 6) = false := by simp [h6]
  have e7 : (t.op == 7) = false := by simp [h7]
  have HA := tokA_only w t
  obtain ⟨e1, e2, e3⟩ := empty_facts hqu
  have HX : Hid (txB t = t.text) := Lib.hid (by unfold txB; rw [if_neg h5, if_neg h6, if_neg h7, if_pos hqu])
  clear hqu h5 h6 h7
  go_enter Tryz.func77, Tryz.ntmps77
  go_wp2_with (first | fail)
  go_ret
  exact ⟨by rw [HX.out]; rfl, HA⟩
set_option maxRecDepth 100000 in
set_option maxHeartbeats 2000000 in
theorem textOf_qual (t : Tok) (W w : World) (hq : Q W w) (h5 : t.op ≠ 5) (h6 : t.op ≠ 6) (h7 : t.op ≠ 7) (hqu : t.qual.data.toList ≠ []) (hz1 : t.qual.size ≤ 1000000) (hz2 : t.text.size ≤ 1000000) :
    Calls Tryz.prog 77 #[tokV t] w fun e w' => e = .returned (.string (txB t)) ∧ Only (fun _ => False) w w' := by
  have e5 : (t.op == 5) = false := by simp [h5]
  have e6 : (t.op == 6) = false := by simp [h6]
  have e7 : (t.op == 7) = false := by simp [h7]
  have HA := tokA_only w t
  obtain ⟨e1, e2, e3⟩ := full_facts hqu
  have HX : Hid (txB t = t.qual ++ ⟨#[46]⟩ ++ t.text) := Lib.hid (by unfold txB; rw [if_neg h5, if_neg h6, if_neg h7, if_neg hqu])
  clear hqu h5 h6 h7
  go_enter Tryz.func77, Tryz.ntmps77
  go_wp2_with (first | fail)
  go_ret
  exact ⟨by rw [HX.out]; rfl, HA⟩
set_option maxRecDepth 100000 in
set_option maxHeartbeats 2000000 in
theorem textOf_int (t : Tok) (W w : World) (hq : Q W w) (h5 : t.op = 5) (hn0 : -9223372036854775808 ≤ t.n) (hn1 : t.n ≤ 9223372036854775807) :
    Calls Tryz.prog 77 #[tokV t] w fun e w' => e = .returned (.string (txB t)) ∧ Only (fun _ => False) w w' := by
  have HA := tokA_only w t
  have e5 : (t.op == 5) = true := by simp [h5]
  have HX : Hid (txB t = ⟨(Lib.itoa t.n).toArray⟩) := Lib.hid (by unfold txB; rw [if_pos h5])
  have hQ0 : Q W (tokA w t) := hq.below ((Below.refl _ _).alloc (Nat.le_refl _) _)
  clear h5
  go_enter Tryz.func77, Tryz.ntmps77
  go_wp2_with (first | (go_at_call 106; refine (itoa_q _ _ _ hn0 hn1 hQ0.self).mono ?_; rintro e w1 ⟨rfl, hq1⟩))
  go_ret
  exact ⟨by rw [HX.out]; rfl, HA.trans (Only.of_below hq1.bel)⟩
set_option maxRecDepth 100000 in
set_option maxHeartbeats 2000000 in
theorem textOf_char (t : Tok) (W w : World) (hq : Q W w) (h6 : t.op = 6) :
    Calls Tryz.prog 77 #[tokV t] w fun e w' => e = .returned (.string (txB t)) ∧ Only (fun _ => False) w w' := by
  have HA := tokA_only w t
  have e5 : (t.op == 5) = false := by simp [h6]
  have e6 : (t.op == 6) = true := by simp [h6]
  have HX : Hid (txB t = qcB t.n) := Lib.hid (by unfold txB; rw [if_neg (by rw [h6]; decide), if_pos h6])
  clear h6
  go_enter Tryz.func77, Tryz.ntmps77
  go_wp2_with (first | (go_at_call 20; refine (QuoteChar_p _ _).mono ?_; rintro e w1 ⟨rfl, hb⟩))
  go_ret
  exact ⟨by rw [HX.out]; rfl, HA.trans (Only.of_below hb)⟩
set_option maxRecDepth 100000 in
set_option maxHeartbeats 2000000 in
theorem textOf_str (t : Tok) (W w : World) (hq : Q W w) (h7 : t.op = 7) (hz : t.text.size ≤ 1000000) :
    Calls Tryz.prog 77 #[tokV t] w fun e w' => e = .returned (.string (txB t)) ∧ Only (fun _ => False) w w' := by
  have HA := tokA_only w t
  have e5 : (t.op == 5) = false := by simp [h7]
  have e6 : (t.op == 6) = false := by simp [h7]
  have e7 : (t.op == 7) = true := by simp [h7]
  have HX : Hid (txB t = ⟨(qtL 34 t.text.data.toList).toArray⟩) := Lib.hid (by unfold txB; rw [if_neg (by rw [h7]; decide), if_neg (by rw [h7]; decide), if_pos h7])
  clear h7
  go_enter Tryz.func77, Tryz.ntmps77
  go_wp2_with (first | (go_at_call 19; refine (Quote_p _ _ hz).mono ?_; rintro e w1 ⟨rfl, hb⟩))
  go_ret
  exact ⟨by rw [HX.out]; rfl, HA.trans (Only.of_below hb)⟩
theorem textOf_p (t : Tok) (W w : World) (hq : Q W w) (hn0 : -9223372036854775808 ≤ t.n) (hn1 : t.n ≤ 9223372036854775807) (hz1 : t.qual.size ≤ 1000000) (hz2 : t.text.size ≤ 1000000) :
    Calls Tryz.prog 77 #[tokV t] w fun e w' => e = .returned (.string (txB t)) ∧ Only (fun _ => False) w w' := by
  by_cases h5 : t.op = 5
  · exact textOf_int t W w hq h5 hn0 hn1
  by_cases h6 : t.op = 6
  · exact textOf_char t W w hq h6
  by_cases h7 : t.op = 7
  · exact textOf_str t W w hq h7 hz2
  by_cases hqu : t.qual.data.toList = []
  · exact textOf_plain t W w hq h5 h6 h7 hqu
  · exact textOf_qual t W w hq h5 h6 h7 hqu hz1 hz2
end Go.Proofs.YtakojceggpljoaaGreatDoor
