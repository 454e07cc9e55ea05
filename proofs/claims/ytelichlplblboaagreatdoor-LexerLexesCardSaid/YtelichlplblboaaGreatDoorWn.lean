/-
  WALKS. Render's writer: text, token; the text of a token.
  WALKS. Render's writer: a token.
  WALKS. Render's writer: a token with blanks before it.
  WALKS. Render's writer: a token after one blank; after line feeds.
  WALKS. Render's writer: a token after line feeds.
  WALKS. Render's writer: a token, whatever lies before it; Render.
  WALKS. Render, given what isTokenPrintable answers.
-/
import Derived.Test.YtelichlplblboaaGreatDoorShelf
import Derived.Test.YtelichlplblboaaGreatDoorPrt0
import Derived.Test.YtelichlplblboaaGreatDoorSame
import Derived.Deep.RegionWith
import Derived.IntWalk
import Derived.Lib.ItoaLen
namespace Go.Proofs.YtelichlplblboaaGreatDoor
open Go.RowKit Go.Maps
theorem lies3 : Lies 59 3 := by unfold Lies; kernel_rfl
/-- The writer at b: what it has written; the next place; is it the line's first? -/
structure WS where
  out : List UInt8
  line : Int
  col : Int
  first : Bool
def WB (w : World) (b B : Nat) (s : WS) : Prop := BB w b 59 [.int .i64 s.line, .int .i64 s.col, .bool s.first] B s.out
section
variable {w : World} {b B : Nat} {s : WS} {T : TypeId} {p x y z : Value} {l : List UInt8}
theorem BA.r2 (h : BA w b T [x, y, z] B p l) : w.cell? ⟨b, 2, none⟩ = some x := by obtain ⟨_, v, hb, _⟩ := h; simp [World.cell?, hb]
theorem BA.r3 (h : BA w b T [x, y, z] B p l) : w.cell? ⟨b, 3, none⟩ = some y := by obtain ⟨_, v, hb, _⟩ := h; simp [World.cell?, hb]
theorem BA.r4 (h : BA w b T [x, y, z] B p l) : w.cell? ⟨b, 4, none⟩ = some z := by obtain ⟨_, v, hb, _⟩ := h; simp [World.cell?, hb]
theorem BA.set2 (h : BA w b T [x, y, z] B p l) (q : Value) : BA (w.setCell ⟨b, 2, none⟩ q) b T [q, y, z] B p l := by
  obtain ⟨h1, v, h2, h3⟩ := h
  refine ⟨h1, v, ?_, h3.only (Only.setCell (k := 2) (Only.refl (· = b) w) rfl q) (fun i hi => by rw [hi]; exact h1)⟩
  simp [World.setCell, Array.getElem?_modify, h2]
theorem BA.set3 (h : BA w b T [x, y, z] B p l) (q : Value) : BA (w.setCell ⟨b, 3, none⟩ q) b T [x, q, z] B p l := by
  obtain ⟨h1, v, h2, h3⟩ := h
  refine ⟨h1, v, ?_, h3.only (Only.setCell (k := 3) (Only.refl (· = b) w) rfl q) (fun i hi => by rw [hi]; exact h1)⟩
  simp [World.setCell, Array.getElem?_modify, h2]
theorem BA.set4 (h : BA w b T [x, y, z] B p l) (q : Value) : BA (w.setCell ⟨b, 4, none⟩ q) b T [x, y, q] B p l := by
  obtain ⟨h1, v, h2, h3⟩ := h
  refine ⟨h1, v, ?_, h3.only (Only.setCell (k := 4) (Only.refl (· = b) w) rfl q) (fun i hi => by rw [hi]; exact h1)⟩
  simp [World.setCell, Array.getElem?_modify, h2]
theorem BB.only {w' : World} {rest : List Value} {K : Nat → Prop} (h : BB w b T rest B l) (ho : Only K w w') (hb : ¬ K b) (hk : ∀ i, K i → i < B) : BB w' b T rest B l :=
  h.elim (fun h => .inl (h.only ho hb hk)) (fun h => .inr (h.only ho hb hk))
theorem BB.keep {w' : World} {rest : List Value} (h : BB w b T rest B l) (ho : Only (fun _ => False) w w') : BB w' b T rest B l := h.only ho (fun h => h) (fun _ h => h.elim)
theorem BB.r2 (h : BB w b T [x, y, z] B l) : w.cell? ⟨b, 2, none⟩ = some x := h.elim BA.r2 BA.r2
theorem BB.r3 (h : BB w b T [x, y, z] B l) : w.cell? ⟨b, 3, none⟩ = some y := h.elim BA.r3 BA.r3
theorem BB.r4 (h : BB w b T [x, y, z] B l) : w.cell? ⟨b, 4, none⟩ = some z := h.elim BA.r4 BA.r4
theorem BB.fz {rest : List Value} (h : BB w b T rest B l) (k : Nat) : w.frozen? ⟨b, k, none⟩ = false := h.elim (fun h => h.fz k) (fun h => h.fz k)
theorem BB.set2 (h : BB w b T [x, y, z] B l) (q : Value) : BB (w.setCell ⟨b, 2, none⟩ q) b T [q, y, z] B l := h.elim (fun h => .inl (h.set2 q)) (fun h => .inr (h.set2 q))
theorem BB.set3 (h : BB w b T [x, y, z] B l) (q : Value) : BB (w.setCell ⟨b, 3, none⟩ q) b T [x, q, z] B l := h.elim (fun h => .inl (h.set3 q)) (fun h => .inr (h.set3 q))
theorem BB.set4 (h : BB w b T [x, y, z] B l) (q : Value) : BB (w.setCell ⟨b, 4, none⟩ q) b T [x, y, q] B l := h.elim (fun h => .inl (h.set4 q)) (fun h => .inr (h.set4 q))
/-- What the writer's calls leave. -/
def WPost (w : World) (b B : Nat) (s' : WS) (r : Ending) (w' : World) : Prop := r = .returned (.tuple #[]) ∧ WB w' b B s' ∧ Only (fun k => k = b ∨ B ≤ k) w w' ∧ Only (Fine w b) w w'
set_option maxRecDepth 100000 in
set_option maxHeartbeats 2000000 in
theorem wtext_p (h : WB w b B s) (t : ByteArray) (hlen : s.out.length + t.size ≤ 1000000000) (hBw : B ≤ w.heap.size) (hc0 : 0 ≤ s.col) (hc1 : s.col ≤ 1000000000) :
    Calls Tryz.prog 76 #[.pointer (some ⟨b, 0, none⟩), .string t] w (WPost w b B ⟨s.out ++ t.data.toList, s.line, s.col + t.size, s.first⟩) := by
  go_enter Tryz.func76, Tryz.ntmps76
  go_wp2_with (first | (go_at_call 74; refine (WriteString_p h lies3 t hlen hBw).mono ?_; rintro r w1 ⟨rfl, hA, hO, hFn⟩; have c3 := hA.r3; have z3 := hA.fz 3))
  go_end0
  exact ⟨rfl, .inr (hA.set3 _), Only.setCell (k := 3) hO (.inl rfl) _, Only.setCell (k := 3) hFn (.inl rfl) _⟩
end
/-- The text of a printable token. -/
def txB (t : Tok) : ByteArray :=
  if t.op = 5 then ⟨(Lib.itoa t.n).toArray⟩ else if t.op = 6 then qcB t.n else if t.op = 7 then ⟨(qtL 34 t.text.data.toList).toArray⟩
  else if t.qual.data.toList = [] then t.text else t.qual ++ ⟨#[46]⟩ ++ t.text
set_option maxRecDepth 100000 in
set_option maxHeartbeats 2000000 in
theorem textOf_plain (t : Tok) (W w : World) (hq : Q W w) (h5 : t.op ≠ 5) (h6 : t.op ≠ 6) (h7 : t.op ≠ 7) (hqu : t.qual.data.toList = []) :
    Calls Tryz.prog 77 #[tokV t] w fun e w' => e = .returned (.string (txB t)) ∧ Only (fun _ => False) w w' := by
  have e5 : (t.op == 5) = false := by simp [h5]
  have e6 : (t.op == 6) = false := by simp [h6]
  have e7 : (t.op == 7) = false := by simp [h7]
  have HA := tokA_only w t
  obtain ⟨e1, e2, e3⟩ := empty_facts hqu
  have HX : Hid (txB t = t.text) := Lib.hid (by unfold txB; rw [if_neg h5, if_neg h6, if_neg h7, if_pos hqu])
  clear hqu h5 h6 h7
  go_enter Tryz.func77, Tryz.ntmps77
  go_wp2_with (first | fail)
  go_ret
  exact ⟨by rw [HX.out]; rfl, HA⟩
set_option maxRecDepth 100000 in
set_option maxHeartbeats 2000000 in
theorem textOf_qual (t : Tok) (W w : World) (hq : Q W w) (h5 : t.op ≠ 5) (h6 : t.op ≠ 6) (h7 : t.op ≠ 7) (hqu : t.qual.data.toList ≠ []) (hz1 : t.qual.size ≤ 1000000) (hz2 : t.text.size ≤ 1000000) :
    Calls Tryz.prog 77 #[tokV t] w fun e w' => e = .returned (.string (txB t)) ∧ Only (fun _ => False) w w' := by
  have e5 : (t.op == 5) = false := by simp [h5]
  have e6 : (t.op == 6) = false := by simp [h6]
  have e7 : (t.op == 7) = false := by simp [h7]
  have HA := tokA_only w t
  obtain ⟨e1, e2, e3⟩ := full_facts hqu
  have HX : Hid (txB t = t.qual ++ ⟨#[46]⟩ ++ t.text) := Lib.hid (by unfold txB; rw [if_neg h5, if_neg h6, if_neg h7, if_neg hqu])
  clear hqu h5 h6 h7
  go_enter Tryz.func77, Tryz.ntmps77
  go_wp2_with (first | fail)
  go_ret
  exact ⟨by rw [HX.out]; rfl, HA⟩
set_option maxRecDepth 100000 in
set_option maxHeartbeats 2000000 in
theorem textOf_int (t : Tok) (W w : World) (hq : Q W w) (h5 : t.op = 5) (hn0 : -9223372036854775808 ≤ t.n) (hn1 : t.n ≤ 9223372036854775807) :
    Calls Tryz.prog 77 #[tokV t] w fun e w' => e = .returned (.string (txB t)) ∧ Only (fun _ => False) w w' := by
  have HA := tokA_only w t
  have e5 : (t.op == 5) = true := by simp [h5]
  have HX : Hid (txB t = ⟨(Lib.itoa t.n).toArray⟩) := Lib.hid (by unfold txB; rw [if_pos h5])
  have hQ0 : Q W (tokA w t) := hq.below ((Below.refl _ _).alloc (Nat.le_refl _) _)
  clear h5
  go_enter Tryz.func77, Tryz.ntmps77
  go_wp2_with (first | (go_at_call 106; refine (itoa_q _ _ _ hn0 hn1 hQ0.self).mono ?_; rintro e w1 ⟨rfl, hq1⟩))
  go_ret
  exact ⟨by rw [HX.out]; rfl, HA.trans (Only.of_below hq1.bel)⟩
set_option maxRecDepth 100000 in
set_option maxHeartbeats 2000000 in
theorem textOf_char (t : Tok) (W w : World) (hq : Q W w) (h6 : t.op = 6) :
    Calls Tryz.prog 77 #[tokV t] w fun e w' => e = .returned (.string (txB t)) ∧ Only (fun _ => False) w w' := by
  have HA := tokA_only w t
  have e5 : (t.op == 5) = false := by simp [h6]
  have e6 : (t.op == 6) = true := by simp [h6]
  have HX : Hid (txB t = qcB t.n) := Lib.hid (by unfold txB; rw [if_neg (by rw [h6]; decide), if_pos h6])
  clear h6
  go_enter Tryz.func77, Tryz.ntmps77
  go_wp2_with (first | (go_at_call 20; refine (QuoteChar_p _ _).mono ?_; rintro e w1 ⟨rfl, hb⟩))
  go_ret
  exact ⟨by rw [HX.out]; rfl, HA.trans (Only.of_below hb)⟩
set_option maxRecDepth 100000 in
set_option maxHeartbeats 2000000 in
theorem textOf_str (t : Tok) (W w : World) (hq : Q W w) (h7 : t.op = 7) (hz : t.text.size ≤ 1000000) :
    Calls Tryz.prog 77 #[tokV t] w fun e w' => e = .returned (.string (txB t)) ∧ Only (fun _ => False) w w' := by
  have HA := tokA_only w t
  have e5 : (t.op == 5) = false := by simp [h7]
  have e6 : (t.op == 6) = false := by simp [h7]
  have e7 : (t.op == 7) = true := by simp [h7]
  have HX : Hid (txB t = ⟨(qtL 34 t.text.data.toList).toArray⟩) := Lib.hid (by unfold txB; rw [if_neg (by rw [h7]; decide), if_neg (by rw [h7]; decide), if_pos h7])
  clear h7
  go_enter Tryz.func77, Tryz.ntmps77
  go_wp2_with (first | (go_at_call 19; refine (Quote_p _ _ hz).mono ?_; rintro e w1 ⟨rfl, hb⟩))
  go_ret
  exact ⟨by rw [HX.out]; rfl, HA.trans (Only.of_below hb)⟩
theorem textOf_p (t : Tok) (W w : World) (hq : Q W w) (hn0 : -9223372036854775808 ≤ t.n) (hn1 : t.n ≤ 9223372036854775807) (hz1 : t.qual.size ≤ 1000000) (hz2 : t.text.size ≤ 1000000) :
    Calls Tryz.prog 77 #[tokV t] w fun e w' => e = .returned (.string (txB t)) ∧ Only (fun _ => False) w w' := by
  by_cases h5 : t.op = 5
  · exact textOf_int t W w hq h5 hn0 hn1
  by_cases h6 : t.op = 6
  · exact textOf_char t W w hq h6
  by_cases h7 : t.op = 7
  · exact textOf_str t W w hq h7 hz2
  by_cases hqu : t.qual.data.toList = []
  · exact textOf_plain t W w hq h5 h6 h7 hqu
  · exact textOf_qual t W w hq h5 h6 h7 hqu hz1 hz2
end Go.Proofs.YtelichlplblboaaGreatDoor
namespace Go.Proofs.YtelichlplblboaaGreatDoor
open Go.RowKit Go.Maps
def rp (c : UInt8) (n : Nat) : List UInt8 := Lib.repeatL [c] n
theorem rp_len (c : UInt8) (n : Nat) : (rp c n).length = n := by unfold rp; rw [Lib.repeatL_length]; simp
/-- The line feeds before a token. -/
def feedS (s : WS) (line : Int) : WS := if s.line < line then ⟨s.out ++ rp 10 (min (line - s.line) 200).toNat, s.line + min (line - s.line) 200, 1, true⟩ else s
/-- The blanks before a token. -/
def colS (s : WS) (col : Int) : WS := if s.col < col ∧ col ≤ 1000 then ⟨s.out ++ rp 32 (col - s.col).toNat, s.line, s.col + (col - s.col), s.first⟩ else if s.first then s else ⟨s.out ++ [32], s.line, s.col + 1, s.first⟩
def tokS (s : WS) (t : Tok) : WS := ⟨(colS (feedS s t.line) t.col).out ++ (txB t).data.toList, (colS (feedS s t.line) t.col).line, (colS (feedS s t.line) t.col).col + (txB t).size, false⟩
theorem Repeat_p (c : UInt8) (n : Nat) (w : World) (hn : n ≤ 1000000) :
    Calls Tryz.prog 75 #[.string ⟨#[c]⟩, .int .i64 n] w fun e w' => e = .returned (.string ⟨(rp c n).toArray⟩) ∧ Only (fun _ => False) w w' :=
  (Tryz.strings_Repeat ⟨#[c]⟩ n w (by omega) (by show 1 * n ≤ _; omega)).mono fun _ _ ⟨he, hb⟩ => ⟨he, Only.of_below hb⟩
/-- The token's block g stands through the writer's calls. -/
theorem TC.fine {w w' : World} {g b : Nat} {t : Tok} (h : w.heap[g]? = some (.cells #[.int .i64 t.op, .string t.qual, .string t.text, .int .i64 t.n, .bool t.auto, .int .i64 t.line, .int .i64 t.col] 38 (0, 0))) (ho : Only (Fine w b) w w') (hb : g ≠ b) : w'.heap[g]? = some (.cells #[.int .i64 t.op, .string t.qual, .string t.text, .int .i64 t.n, .bool t.auto, .int .i64 t.line, .int .i64 t.col] 38 (0, 0)) := by
  refine (ho.block g (lt_of_block h) (fun hc => ?_)).trans h
  rcases hc with hc | ⟨c, hc⟩
  · exact hb hc
  · rw [h] at hc; simp at hc
theorem TC.keepB {w w' : World} {g : Nat} {t : Tok} (h : w.heap[g]? = some (.cells #[.int .i64 t.op, .string t.qual, .string t.text, .int .i64 t.n, .bool t.auto, .int .i64 t.line, .int .i64 t.col] 38 (0, 0))) (ho : Only (fun _ => False) w w') : w'.heap[g]? = some (.cells #[.int .i64 t.op, .string t.qual, .string t.text, .int .i64 t.n, .bool t.auto, .int .i64 t.line, .int .i64 t.col] 38 (0, 0)) := (ho.block g (lt_of_block h) (fun h => h)).trans h
theorem fine_of {w w1 w2 : World} {b : Nat} (h : Only (fun _ => False) w w1) (h2 : Only (Fine w1 b) w1 w2) : Only (Fine w b) w w2 := Only.fine (h.wide (fun _ h => h.elim)) h2
section
variable {W w : World} {b B : Nat} {s : WS}
set_option maxRecDepth 100000 in
set_option maxHeartbeats 4000000 in
theorem tok_no (hq : Q W w) (h : WB w b B s) (t : Tok) (hn0 : -9223372036854775808 ≤ t.n) (hn1 : t.n ≤ 9223372036854775807) (hz1 : t.qual.size ≤ 1000000) (hz2 : t.text.size ≤ 1000000) (hx : (txB t).size ≤ 10000000) (hlen : s.out.length ≤ 100000000) (hBw : B ≤ w.heap.size) (hbB : b < B) (hc0 : 1 ≤ s.col) (hc1 : s.col ≤ 100000000) (hl0 : 1 ≤ s.line) (hl1 : s.line ≤ 1000000000) (hl : t.line ≤ s.line) (hc : ¬ (s.col < t.col ∧ t.col ≤ 1000)) (hf : s.first = true) :
    Calls Tryz.prog 28 #[.pointer (some ⟨b, 0, none⟩), tokV t] w (WPost w b B (tokS s t)) := by
  have hbw : b < w.heap.size := by omega
  have c2 := BB.r2 h
  have c3 := BB.r3 h
  have c4 := BB.r4 h
  have z2 := BB.fz h 2
  have z3 := BB.fz h 3
  have z4 := BB.fz h 4
  have hA := tokA_only w t
  have hW0 : WB (tokA w t) b B s := BB.keep h hA
  have hQ0 : Q W (tokA w t) := hq.below ((Below.refl _ _).alloc (Nat.le_refl _) _)
  have HG0 := Lib.hid (new_block w (.cells #[.int .i64 t.op, .string t.qual, .string t.text, .int .i64 t.n, .bool t.auto, .int .i64 t.line, .int .i64 t.col] 38))
  have hZ0 : B ≤ (tokA w t).heap.size := Nat.le_trans hBw hA.size
  have HX := Lib.hid hx
  have HT : Hid (tokS s t = ⟨s.out ++ (txB t).data.toList, s.line, s.col + (txB t).size, false⟩) := Lib.hid (by unfold tokS feedS colS; rw [if_neg (show ¬ s.line < t.line by omega), if_neg hc, if_pos hf])
  have HLN : Hid (s.out.length + (txB t).size ≤ 1000000000) := Lib.hid (by omega)
  have HC0 : Hid (0 ≤ s.col) := Lib.hid (by omega)
  have HC1 : Hid (s.col ≤ 1000000000) := Lib.hid (by omega)
  have hcc : (decide (s.col < t.col) = false) ∨ (decide (s.col < t.col) = true ∧ decide (t.col ≤ 1000) = false) := by simp; omega
  have hll : decide (s.line < t.line) = false := by simp; omega
  rw [HT.out]
  clear hc hx hl
  rcases hcc with hc | ⟨hc, hc'⟩
  all_goals
    go_enter Tryz.func28, Tryz.ntmps28
    go_wp2
    go_region
    all_goals
      go_wp2
      go_region
      all_goals
        go_wp2_with (go_loud (first | (go_at_call 77; refine (textOf_p t _ _ (hQ0.below (Below.refl _ _).drew.drew) hn0 hn1 hz1 hz2).mono ?_; rintro r wa ⟨rfl, hOa⟩; have hWa : WB wa b B (s) := BB.keep ((show WB (tokA w t).drew.drew b B s from hW0)) hOa; have hZa := Nat.le_trans ((show B ≤ (tokA w t).drew.drew.heap.size from hZ0)) hOa.size) | (go_at_call 76; ((with_reducible refine (wtext_p (s := s) hWa (txB t) HLN.out hZa HC0.out HC1.out).mono ?_); rintro r wb ⟨rfl, hWb, hOb, hFb⟩; have c2 := BB.r2 hWb; have c3 := BB.r3 hWb; have c4 := BB.r4 hWb; have z4 := BB.fz hWb 4))))
        go_end0
        exact ⟨rfl, BB.set4 hWb _, Only.setCell (k := 4) (((hA.trans ((Only.refl _ _).drew.drew)).trans hOa).lift.trans hOb) (.inl rfl) _, Only.setCell (k := 4) (fine_of (((hA.trans ((Only.refl _ _).drew.drew)).trans hOa)) hFb) (.inl rfl) _⟩
end
end Go.Proofs.YtelichlplblboaaGreatDoor
namespace Go.Proofs.YtelichlplblboaaGreatDoor
open Go.RowKit Go.Maps
theorem Only.fine2 {w w1 w2 : World} {b : Nat} (h : Only (Fine w b) w w1) (h2 : Only (Fine w1 b) w1 w2) : Only (Fine w b) w w2 :=
  ⟨h2.os.trans h.os, h2.tape.trans h.tape, h2.output.trans h.output, Nat.le_trans h.size h2.size, fun i hi hk => (h2.block i (Nat.lt_of_lt_of_le hi h.size) (fun hc => hk (by
    rcases hc with hc | ⟨c, hc⟩
    · exact .inl hc
    · exact .inr ⟨c, by rw [← h.block i hi hk]; exact hc⟩))).trans (h.block i hi hk)⟩
theorem Repeat_i (c : UInt8) (i : Int) (w : World) (h0 : 0 ≤ i) (h1 : i ≤ 1000000) :
    Calls Tryz.prog 75 #[.string ⟨#[c]⟩, .int .i64 i] w fun e w' => e = .returned (.string ⟨(rp c i.toNat).toArray⟩) ∧ Only (fun _ => False) w w' := by
  have h := Repeat_p c i.toNat w (by omega)
  rw [Int.toNat_of_nonneg h0] at h
  exact h
theorem rpB_size (c : UInt8) (n : Nat) : (⟨(rp c n).toArray⟩ : ByteArray).size = n := by show (rp c n).toArray.size = n; rw [List.size_toArray, rp_len]
theorem Repeat_w (c : UInt8) (i : Int) (w : World) (h0 : 0 ≤ i) (h1 : i ≤ 1000000) :
    Calls Tryz.prog 75 #[.string ⟨#[c]⟩, .int .i64 (IntKind.i64.wrap i)] w fun e w' => e = .returned (.string ⟨(rp c i.toNat).toArray⟩) ∧ Only (fun _ => False) w w' := by
  rw [Go.IntWalk.i64_in i (by omega)]; exact Repeat_i c i w h0 h1
section
variable {W w : World} {b B : Nat} {s : WS}
set_option maxRecDepth 100000 in
set_option maxHeartbeats 4000000 in
theorem tok_sp (hq : Q W w) (h : WB w b B s) (t : Tok) (hn0 : -9223372036854775808 ≤ t.n) (hn1 : t.n ≤ 9223372036854775807) (hz1 : t.qual.size ≤ 1000000) (hz2 : t.text.size ≤ 1000000) (hx : (txB t).size ≤ 10000000) (hlen : s.out.length ≤ 100000000) (hBw : B ≤ w.heap.size) (hbB : b < B) (hc0 : 1 ≤ s.col) (hc1 : s.col ≤ 100000000) (hl0 : 1 ≤ s.line) (hl1 : s.line ≤ 1000000000) (hbW : W.heap.size ≤ b) (hl : t.line ≤ s.line) (hc : s.col < t.col) (hc' : t.col ≤ 1000) :
    Calls Tryz.prog 28 #[.pointer (some ⟨b, 0, none⟩), tokV t] w (WPost w b B (tokS s t)) := by
  have hbw : b < w.heap.size := by omega
  have c2 := BB.r2 h
  have c3 := BB.r3 h
  have c4 := BB.r4 h
  have z2 := BB.fz h 2
  have z3 := BB.fz h 3
  have z4 := BB.fz h 4
  have hA := tokA_only w t
  have hW0 : WB (tokA w t) b B s := BB.keep h hA
  have hQ0 : Q W (tokA w t) := hq.below ((Below.refl _ _).alloc (Nat.le_refl _) _)
  have HG0 := Lib.hid (new_block w (.cells #[.int .i64 t.op, .string t.qual, .string t.text, .int .i64 t.n, .bool t.auto, .int .i64 t.line, .int .i64 t.col] 38))
  have hZ0 : B ≤ (tokA w t).heap.size := Nat.le_trans hBw hA.size
  have HX := Lib.hid hx
  have hne : w.heap.size ≠ b := by omega
  have hA2 : Only (fun _ => False) w (tokA w t).drew.drew.drew := hA.trans (Only.refl _ _).drew.drew.drew
  have hW1 : WB (tokA w t).drew.drew.drew b B s := hW0
  have hZ1 : B ≤ (tokA w t).drew.drew.drew.heap.size := hZ0
  have hQ1 : Q W (tokA w t).drew.drew.drew := hQ0.below (Below.refl _ _).drew.drew.drew
  have HG1 : Hid ((tokA w t).drew.drew.drew.heap[w.heap.size]? = some (.cells #[.int .i64 t.op, .string t.qual, .string t.text, .int .i64 t.n, .bool t.auto, .int .i64 t.line, .int .i64 t.col] 38 (0, 0))) := Lib.hid HG0.out
  obtain ⟨s1, HS0⟩ : ∃ s1 : WS, Hid (s1 = ⟨s.out ++ rp 32 (t.col - s.col).toNat, s.line, s.col + (({ data := (rp 32 (t.col - s.col).toNat).toArray } : ByteArray).size : Nat), s.first⟩) := ⟨_, Lib.hid rfl⟩
  have HS1 : Hid (s1 = ⟨s.out ++ rp 32 (t.col - s.col).toNat, s.line, s.col + (t.col - s.col), s.first⟩) := Lib.hid (by rw [HS0.out, rpB_size, Int.toNat_of_nonneg (show 0 ≤ t.col - s.col by omega)])
  have HT : Hid (tokS s t = ⟨s1.out ++ (txB t).data.toList, s1.line, s1.col + (txB t).size, false⟩) := Lib.hid (by unfold tokS feedS colS; rw [if_neg (show ¬ s.line < t.line by omega), if_pos ⟨hc, hc'⟩, HS1.out])
  have HR0 : Hid (0 ≤ t.col - s.col) := Lib.hid (by omega)
  have HR1 : Hid (t.col - s.col ≤ 1000000) := Lib.hid (by omega)
  have HLR : Hid (s.out.length + (⟨(rp 32 (t.col - s.col).toNat).toArray⟩ : ByteArray).size ≤ 1000000000) := Lib.hid (by show s.out.length + (rp 32 (t.col - s.col).toNat).toArray.size ≤ _; rw [List.size_toArray, rp_len]; omega)
  have HLN : Hid (s1.out.length + (txB t).size ≤ 1000000000) := Lib.hid (by rw [HS1.out]; simp only [List.length_append, rp_len]; omega)
  have HC0 : Hid (0 ≤ s.col) := Lib.hid (by omega)
  have HC1 : Hid (s.col ≤ 1000000000) := Lib.hid (by omega)
  have HD0 : Hid (0 ≤ s1.col) := Lib.hid (by rw [HS1.out]; show 0 ≤ s.col + (t.col - s.col); omega)
  have HD1 : Hid (s1.col ≤ 1000000000) := Lib.hid (by rw [HS1.out]; show s.col + (t.col - s.col) ≤ _; omega)
  have HBW : Hid (W.heap.size ≤ B) := Lib.hid (by omega)
  have HbW := Lib.hid hbW
  have hx0 : decide (s.col < t.col) = true := by simp; omega
  have hx1 : decide (t.col ≤ 1000) = true := by simp; omega
  have hll : decide (s.line < t.line) = false := by simp; omega
  rw [HT.out]
  clear hc hx hl hc'
  go_enter Tryz.func28, Tryz.ntmps28
  go_wp2
  go_region
  all_goals
    go_wp2
    go_region
    all_goals
      go_wp2
      go_region_with (go_loud (first | (go_at_call 75; ((with_reducible refine (Repeat_w 32 (t.col - s.col) _ HR0.out HR1.out).mono ?_); rintro r wr ⟨rfl, hOr⟩; have hWr : WB wr b B s := BB.keep hW1 hOr; have hZr := Nat.le_trans hZ1 hOr.size)) | (go_at_call 76; ((with_reducible refine (wtext_p (s := s) hWr ⟨(rp 32 (t.col - s.col).toNat).toArray⟩ HLR.out hZr HC0.out HC1.out).mono ?_); rintro r wt ⟨rfl, hWt0, hOt, hFt⟩; have hWt : WB wt b B s1 := by (rw [HS0.out]; exact hWt0)))))
      all_goals
        have HGt := TC.fine (TC.keepB HG1.out hOr) hFt hne
        obtain ⟨p0, p1, p2, p3, p4, p5, p6⟩ := TC.of_block HGt
        have c2 := BB.r2 hWt
        have c3 := BB.r3 hWt
        have c4 := BB.r4 hWt
        have z4 := BB.fz hWt 4
        have hQt : Q W wt := (hQ1.only hOr (fun _ h => h.elim)).only hOt (fun i hi => hi.elim (fun h => by rw [h]; exact HbW.out) (fun h => Nat.le_trans HBW.out h))
        have hZt := Nat.le_trans hZr hOt.size
        go_wp2_with (go_loud (first | (go_at_call 77; refine (textOf_p t _ _ (hQt) hn0 hn1 hz1 hz2).mono ?_; rintro r wa ⟨rfl, hOa⟩; have hWa : WB wa b B (s1) := BB.keep (hWt) hOa; have hZa := Nat.le_trans (hZt) hOa.size) | (go_at_call 76; ((with_reducible refine (wtext_p (s := s1) hWa (txB t) HLN.out hZa HD0.out HD1.out).mono ?_); rintro r wb ⟨rfl, hWb, hOb, hFb⟩; have c2 := BB.r2 hWb; have c3 := BB.r3 hWb; have c4 := BB.r4 hWb; have z4 := BB.fz hWb 4))))
        go_end0
        exact ⟨rfl, BB.set4 hWb _, Only.setCell (k := 4) ((((hA2.trans hOr).lift.trans hOt).trans hOa.lift).trans hOb) (.inl rfl) _, Only.setCell (k := 4) (Only.fine2 (fine_of (hA2.trans hOr) hFt) (fine_of hOa hFb)) (.inl rfl) _⟩
end
end Go.Proofs.YtelichlplblboaaGreatDoor
namespace Go.Proofs.YtelichlplblboaaGreatDoor
open Go.RowKit Go.Maps
section
variable {W w : World} {b B : Nat} {s : WS}
set_option maxRecDepth 100000 in
set_option maxHeartbeats 4000000 in
theorem tok_bl (hq : Q W w) (h : WB w b B s) (t : Tok) (hn0 : -9223372036854775808 ≤ t.n) (hn1 : t.n ≤ 9223372036854775807) (hz1 : t.qual.size ≤ 1000000) (hz2 : t.text.size ≤ 1000000) (hx : (txB t).size ≤ 10000000) (hlen : s.out.length ≤ 100000000) (hBw : B ≤ w.heap.size) (hbB : b < B) (hc0 : 1 ≤ s.col) (hc1 : s.col ≤ 100000000) (hl0 : 1 ≤ s.line) (hl1 : s.line ≤ 1000000000) (hbW : W.heap.size ≤ b) (hl : t.line ≤ s.line) (hc : ¬ (s.col < t.col ∧ t.col ≤ 1000)) (hf : s.first = false) :
    Calls Tryz.prog 28 #[.pointer (some ⟨b, 0, none⟩), tokV t] w (WPost w b B (tokS s t)) := by
  have hbw : b < w.heap.size := by omega
  have c2 := BB.r2 h
  have c3 := BB.r3 h
  have c4 := BB.r4 h
  have z2 := BB.fz h 2
  have z3 := BB.fz h 3
  have z4 := BB.fz h 4
  have hA := tokA_only w t
  have hW0 : WB (tokA w t) b B s := BB.keep h hA
  have hQ0 : Q W (tokA w t) := hq.below ((Below.refl _ _).alloc (Nat.le_refl _) _)
  have HG0 := Lib.hid (new_block w (.cells #[.int .i64 t.op, .string t.qual, .string t.text, .int .i64 t.n, .bool t.auto, .int .i64 t.line, .int .i64 t.col] 38))
  have hZ0 : B ≤ (tokA w t).heap.size := Nat.le_trans hBw hA.size
  have HX := Lib.hid hx
  have hA2 : Only (fun _ => False) w (tokA w t).drew.drew := hA.trans (Only.refl _ _).drew.drew
  have hW1 : WB (tokA w t).drew.drew b B s := hW0
  have hZ1 : B ≤ (tokA w t).drew.drew.heap.size := hZ0
  have hQ1 : Q W (tokA w t).drew.drew := hQ0.below (Below.refl _ _).drew.drew
  have HG1 : Hid ((tokA w t).drew.drew.heap[w.heap.size]? = some (.cells #[.int .i64 t.op, .string t.qual, .string t.text, .int .i64 t.n, .bool t.auto, .int .i64 t.line, .int .i64 t.col] 38 (0, 0))) := Lib.hid HG0.out
  have HC0 : Hid (0 ≤ s.col) := Lib.hid (by omega)
  have HC1 : Hid (s.col ≤ 1000000000) := Lib.hid (by omega)
  have HBW : Hid (W.heap.size ≤ B) := Lib.hid (by omega)
  have HbW := Lib.hid hbW
  have hne : w.heap.size ≠ b := by omega
  obtain ⟨s1, HS1⟩ : ∃ s1 : WS, Hid (s1 = ⟨s.out ++ [32], s.line, s.col + 1, s.first⟩) := ⟨_, Lib.hid rfl⟩
  have HT : Hid (tokS s t = ⟨s1.out ++ (txB t).data.toList, s1.line, s1.col + (txB t).size, false⟩) := Lib.hid (by unfold tokS feedS colS; rw [if_neg (show ¬ s.line < t.line by omega), if_neg hc, if_neg (by rw [hf]; decide), HS1.out])
  have HLR : Hid (s.out.length + (⟨#[32]⟩ : ByteArray).size ≤ 1000000000) := Lib.hid (by show s.out.length + 1 ≤ _; omega)
  have HLN : Hid (s1.out.length + (txB t).size ≤ 1000000000) := Lib.hid (by rw [HS1.out]; simp only [List.length_append, List.length_singleton]; omega)
  have HD0 : Hid (0 ≤ s1.col) := Lib.hid (by rw [HS1.out]; show 0 ≤ s.col + 1; omega)
  have HD1 : Hid (s1.col ≤ 1000000000) := Lib.hid (by rw [HS1.out]; show s.col + 1 ≤ _; omega)
  have hcc : (decide (s.col < t.col) = false) ∨ (decide (s.col < t.col) = true ∧ decide (t.col ≤ 1000) = false) := by simp; omega
  have hll : decide (s.line < t.line) = false := by simp; omega
  rw [HT.out]
  clear hc hx hl
  rcases hcc with hc | ⟨hc, hc'⟩
  all_goals
    go_enter Tryz.func28, Tryz.ntmps28
    go_wp2
    go_region
    all_goals
      go_wp2
      go_region
      all_goals
        go_wp2_with (go_loud (first | (go_at_call 76; ((with_reducible refine (wtext_p (s := s) hW1 ⟨#[32]⟩ HLR.out hZ1 HC0.out HC1.out).mono ?_); rintro r wt ⟨rfl, hWt0, hOt, hFt⟩; have hWt : WB wt b B s1 := (by rw [HS1.out]; exact hWt0); have HGt := TC.fine HG1.out hFt hne; obtain ⟨p0, p1, p2, p3, p4, p5, p6⟩ := TC.of_block HGt; have c2 := BB.r2 hWt; have c3 := BB.r3 hWt; have c4 := BB.r4 hWt; have z4 := BB.fz hWt 4; have hQt : Q W wt := hQ1.only hOt (fun i hi => hi.elim (fun h => by rw [h]; exact HbW.out) (fun h => Nat.le_trans HBW.out h)); have hZt := Nat.le_trans hZ1 hOt.size)) | (go_at_call 77; refine (textOf_p t _ _ (hQt) hn0 hn1 hz1 hz2).mono ?_; rintro r wa ⟨rfl, hOa⟩; have hWa : WB wa b B (s1) := BB.keep (hWt) hOa; have hZa := Nat.le_trans (hZt) hOa.size) | (go_at_call 76; ((with_reducible refine (wtext_p (s := s1) hWa (txB t) HLN.out hZa HD0.out HD1.out).mono ?_); rintro r wb ⟨rfl, hWb, hOb, hFb⟩; have c2 := BB.r2 hWb; have c3 := BB.r3 hWb; have c4 := BB.r4 hWb; have z4 := BB.fz hWb 4))))
        go_end0
        exact ⟨rfl, BB.set4 hWb _, Only.setCell (k := 4) (((hA2.lift.trans hOt).trans hOa.lift).trans hOb) (.inl rfl) _, Only.setCell (k := 4) (Only.fine2 (fine_of hA2 hFt) (fine_of hOa hFb)) (.inl rfl) _⟩
end
end Go.Proofs.YtelichlplblboaaGreatDoor
namespace Go.Proofs.YtelichlplblboaaGreatDoor
open Go.RowKit Go.Maps
theorem Repeat_v (c : UInt8) (i : Int) (N : Nat) (w : World) (hN : i.toNat = N) (h0 : 0 ≤ i) (h1 : i ≤ 1000000) :
    Calls Tryz.prog 75 #[.string ⟨#[c]⟩, .int .i64 (IntKind.i64.wrap i)] w fun e w' => e = .returned (.string ⟨(rp c N).toArray⟩) ∧ Only (fun _ => False) w w' := hN ▸ Repeat_w c i w h0 h1
section
variable {W w : World} {b B : Nat} {s : WS}
set_option maxRecDepth 100000 in
set_option maxHeartbeats 4000000 in
theorem tok_fe_no (hq : Q W w) (h : WB w b B s) (t : Tok) (hn0 : -9223372036854775808 ≤ t.n) (hn1 : t.n ≤ 9223372036854775807) (hz1 : t.qual.size ≤ 1000000) (hz2 : t.text.size ≤ 1000000) (hx : (txB t).size ≤ 10000000) (hlen : s.out.length ≤ 100000000) (hBw : B ≤ w.heap.size) (hbB : b < B) (hc0 : 1 ≤ s.col) (hc1 : s.col ≤ 100000000) (hl0 : 1 ≤ s.line) (hl1 : s.line ≤ 1000000000) (hbW : W.heap.size ≤ b) (ht0 : t.line ≤ 9223372036854775807) (hl : s.line < t.line) (hc : ¬ (1 < t.col ∧ t.col ≤ 1000)) :
    Calls Tryz.prog 28 #[.pointer (some ⟨b, 0, none⟩), tokV t] w (WPost w b B (tokS s t)) := by
  have hbw : b < w.heap.size := by omega
  have c2 := BB.r2 h
  have c3 := BB.r3 h
  have c4 := BB.r4 h
  have z2 := BB.fz h 2
  have z3 := BB.fz h 3
  have z4 := BB.fz h 4
  have hA := tokA_only w t
  have hW0 : WB (tokA w t) b B s := BB.keep h hA
  have hQ0 : Q W (tokA w t) := hq.below ((Below.refl _ _).alloc (Nat.le_refl _) _)
  have HG0 := Lib.hid (new_block w (.cells #[.int .i64 t.op, .string t.qual, .string t.text, .int .i64 t.n, .bool t.auto, .int .i64 t.line, .int .i64 t.col] 38))
  have hZ0 : B ≤ (tokA w t).heap.size := Nat.le_trans hBw hA.size
  have HX := Lib.hid hx
  have hA2 : Only (fun _ => False) w (tokA w t).drew.drew.drew := hA.trans (Only.refl _ _).drew.drew.drew
  have hW1 : WB (tokA w t).drew.drew.drew b B s := hW0
  have hZ1 : B ≤ (tokA w t).drew.drew.drew.heap.size := hZ0
  have hQ1 : Q W (tokA w t).drew.drew.drew := hQ0.below (Below.refl _ _).drew.drew.drew
  have HG1 : Hid ((tokA w t).drew.drew.drew.heap[w.heap.size]? = some (.cells #[.int .i64 t.op, .string t.qual, .string t.text, .int .i64 t.n, .bool t.auto, .int .i64 t.line, .int .i64 t.col] 38 (0, 0))) := Lib.hid HG0.out
  have HC0 : Hid (0 ≤ s.col) := Lib.hid (by omega)
  have HC1 : Hid (s.col ≤ 1000000000) := Lib.hid (by omega)
  have HBW : Hid (W.heap.size ≤ B) := Lib.hid (by omega)
  have HbW := Lib.hid hbW
  have hne : w.heap.size ≠ b := by omega
  have HM0 : Hid (0 ≤ min (t.line - s.line) 200) := Lib.hid (by omega)
  have HM1 : Hid (min (t.line - s.line) 200 ≤ 200) := Lib.hid (by omega)
  have HM2 : Hid (min (t.line - s.line) 200 ≤ 1000000) := Lib.hid (by omega)
  have HLI : Hid (Lies 59 [Value.int .i64 s.line, .int .i64 s.col, .bool s.first].length) := Lib.hid lies3
  have HLF : Hid (s.out.length + (⟨(rp 10 (min (t.line - s.line) 200).toNat).toArray⟩ : ByteArray).size ≤ 1000000000) := Lib.hid (by rw [rpB_size]; omega)
  obtain ⟨s0, HS0⟩ : ∃ s0 : WS, Hid (s0 = ⟨s.out ++ rp 10 (min (t.line - s.line) 200).toNat, s.line + min (t.line - s.line) 200, 1, true⟩) := ⟨_, Lib.hid rfl⟩
  have HL0 : Hid (s0.out.length ≤ 100001000) := Lib.hid (by rw [HS0.out]; simp only [List.length_append, rp_len]; omega)
  have HD0 : Hid (0 ≤ s0.col) := Lib.hid (by rw [HS0.out]; show (0:Int) ≤ 1; decide)
  have HD1 : Hid (s0.col ≤ 1000000000) := Lib.hid (by rw [HS0.out]; show (1:Int) ≤ 1000000000; decide)
  have HLN : Hid (s0.out.length + (txB t).size ≤ 1000000000) := Lib.hid (by have := HL0.out; omega)
  have HT : Hid (tokS s t = ⟨s0.out ++ (txB t).data.toList, s0.line, s0.col + (txB t).size, false⟩) := Lib.hid (by unfold tokS feedS; rw [if_pos hl]; unfold colS; rw [if_neg hc, if_pos rfl, HS0.out])
  have hcc : (decide (1 < t.col) = false) ∨ (decide (1 < t.col) = true ∧ decide (t.col ≤ 1000) = false) := by simp; omega
  have hll : decide (s.line < t.line) = true := by simp; omega
  have hmn0 : 0 ≤ min (t.line - s.line) 200 := by omega
  have hmn1 : min (t.line - s.line) 200 ≤ 200 := by omega
  rw [HT.out]
  clear hx hl hc
  rcases hcc with hc | ⟨hc, hc'⟩
  all_goals
    go_enter Tryz.func28, Tryz.ntmps28
    go_wp2
    go_region
    all_goals
      go_wp2
      go_region
      all_goals
        go_wp2
        go_region_with (go_loud (first | (go_at_call 75; ((with_reducible refine (Repeat_i 10 (min (t.line - s.line) 200) _ HM0.out HM2.out).mono ?_); rintro r wr ⟨rfl, hOr⟩; have hWr : BB wr b 59 [.int .i64 s.line, .int .i64 s.col, .bool s.first] B s.out := BB.keep hW1 hOr; have hZr := Nat.le_trans hZ1 hOr.size)) | (go_at_call 74; ((with_reducible refine (WriteString_p hWr HLI.out ⟨(rp 10 (min (t.line - s.line) 200).toNat).toArray⟩ HLF.out hZr).mono ?_); rintro r wt ⟨rfl, hBt, hOt, hFt⟩))))
        all_goals
          have c2 := BA.r2 hBt
          have c3 := BA.r3 hBt
          have c4 := BA.r4 hBt
          have z2 := BA.fz hBt 2
          have z3 := BA.fz hBt 3
          have z4 := BA.fz hBt 4
          have HGt := TC.fine (TC.keepB HG1.out hOr) hFt hne
          obtain ⟨p0, p1, p2, p3, p4, p5, p6⟩ := TC.of_block HGt
          have hWz : WB (((wt.setCell ⟨b, 2, none⟩ (.int .i64 (s.line + min (t.line - s.line) 200))).setCell ⟨b, 3, none⟩ (.int .i64 1)).setCell ⟨b, 4, none⟩ (.bool true)) b B s0 := by (rw [HS0.out]; exact BB.set4 (BB.set3 (BB.set2 (.inr hBt) _) _) _)
          have hOz : Only (fun k => k = b ∨ B ≤ k) w (((wt.setCell ⟨b, 2, none⟩ (.int .i64 (s.line + min (t.line - s.line) 200))).setCell ⟨b, 3, none⟩ (.int .i64 1)).setCell ⟨b, 4, none⟩ (.bool true)) := Only.setCell (k := 4) (Only.setCell (k := 3) (Only.setCell (k := 2) ((hA2.trans hOr).lift.trans hOt) (.inl rfl) _) (.inl rfl) _) (.inl rfl) _
          have hFz : Only (Fine w b) w (((wt.setCell ⟨b, 2, none⟩ (.int .i64 (s.line + min (t.line - s.line) 200))).setCell ⟨b, 3, none⟩ (.int .i64 1)).setCell ⟨b, 4, none⟩ (.bool true)) := Only.setCell (k := 4) (Only.setCell (k := 3) (Only.setCell (k := 2) (fine_of (hA2.trans hOr) hFt) (.inl rfl) _) (.inl rfl) _) (.inl rfl) _
          have hQz : Q W (((wt.setCell ⟨b, 2, none⟩ (.int .i64 (s.line + min (t.line - s.line) 200))).setCell ⟨b, 3, none⟩ (.int .i64 1)).setCell ⟨b, 4, none⟩ (.bool true)) := hq.only hOz (fun i hi => hi.elim (fun h => by rw [h]; exact HbW.out) (fun h => Nat.le_trans HBW.out h))
          have hZz : B ≤ (((wt.setCell ⟨b, 2, none⟩ (.int .i64 (s.line + min (t.line - s.line) 200))).setCell ⟨b, 3, none⟩ (.int .i64 1)).setCell ⟨b, 4, none⟩ (.bool true)).heap.size := Nat.le_trans hBw hOz.size
          go_wp2
          go_region
          all_goals
            go_wp2_with (go_loud (first | (go_at_call 76; ((with_reducible refine (wtext_p (s := s0) hWa (txB t) HLN.out hZa HD0.out HD1.out).mono ?_); rintro r wb ⟨rfl, hWb, hOb, hFb⟩; have c2 := BB.r2 hWb; have c3 := BB.r3 hWb; have c4 := BB.r4 hWb; have z4 := BB.fz hWb 4)) | (go_at_call 77; refine (textOf_p t _ _ ((hQz.below (Below.refl _ _).drew)) hn0 hn1 hz1 hz2).mono ?_; rintro r wa ⟨rfl, hOa⟩; have hWa : WB wa b B (s0) := BB.keep ((show WB (((wt.setCell ⟨b, 2, none⟩ (.int .i64 (s.line + min (t.line - s.line) 200))).setCell ⟨b, 3, none⟩ (.int .i64 1)).setCell ⟨b, 4, none⟩ (.bool true)).drew b B s0 from hWz)) hOa; have hZa := Nat.le_trans ((show B ≤ (((wt.setCell ⟨b, 2, none⟩ (.int .i64 (s.line + min (t.line - s.line) 200))).setCell ⟨b, 3, none⟩ (.int .i64 1)).setCell ⟨b, 4, none⟩ (.bool true)).drew.heap.size from hZz)) hOa.size)))
            go_end0
            exact ⟨rfl, BB.set4 hWb _, Only.setCell (k := 4) ((hOz.trans (Only.lift (Only.trans (Only.refl _ _).drew hOa))).trans hOb) (.inl rfl) _, Only.setCell (k := 4) (Only.fine2 hFz (fine_of (Only.trans (Only.refl _ _).drew hOa) hFb)) (.inl rfl) _⟩
set_option maxRecDepth 100000 in
set_option maxHeartbeats 4000000 in
theorem tok_fe_sp (hq : Q W w) (h : WB w b B s) (t : Tok) (hn0 : -9223372036854775808 ≤ t.n) (hn1 : t.n ≤ 9223372036854775807) (hz1 : t.qual.size ≤ 1000000) (hz2 : t.text.size ≤ 1000000) (hx : (txB t).size ≤ 10000000) (hlen : s.out.length ≤ 100000000) (hBw : B ≤ w.heap.size) (hbB : b < B) (hc0 : 1 ≤ s.col) (hc1 : s.col ≤ 100000000) (hl0 : 1 ≤ s.line) (hl1 : s.line ≤ 1000000000) (hbW : W.heap.size ≤ b) (ht0 : t.line ≤ 9223372036854775807) (hl : s.line < t.line) (hc : 1 < t.col) (hc' : t.col ≤ 1000) :
    Calls Tryz.prog 28 #[.pointer (some ⟨b, 0, none⟩), tokV t] w (WPost w b B (tokS s t)) := by
  have hbw : b < w.heap.size := by omega
  have c2 := BB.r2 h
  have c3 := BB.r3 h
  have c4 := BB.r4 h
  have z2 := BB.fz h 2
  have z3 := BB.fz h 3
  have z4 := BB.fz h 4
  have hA := tokA_only w t
  have hW0 : WB (tokA w t) b B s := BB.keep h hA
  have hQ0 : Q W (tokA w t) := hq.below ((Below.refl _ _).alloc (Nat.le_refl _) _)
  have HG0 := Lib.hid (new_block w (.cells #[.int .i64 t.op, .string t.qual, .string t.text, .int .i64 t.n, .bool t.auto, .int .i64 t.line, .int .i64 t.col] 38))
  have hZ0 : B ≤ (tokA w t).heap.size := Nat.le_trans hBw hA.size
  have HX := Lib.hid hx
  have hA2 : Only (fun _ => False) w (tokA w t).drew.drew.drew := hA.trans (Only.refl _ _).drew.drew.drew
  have hW1 : WB (tokA w t).drew.drew.drew b B s := hW0
  have hZ1 : B ≤ (tokA w t).drew.drew.drew.heap.size := hZ0
  have hQ1 : Q W (tokA w t).drew.drew.drew := hQ0.below (Below.refl _ _).drew.drew.drew
  have HG1 : Hid ((tokA w t).drew.drew.drew.heap[w.heap.size]? = some (.cells #[.int .i64 t.op, .string t.qual, .string t.text, .int .i64 t.n, .bool t.auto, .int .i64 t.line, .int .i64 t.col] 38 (0, 0))) := Lib.hid HG0.out
  have HC0 : Hid (0 ≤ s.col) := Lib.hid (by omega)
  have HC1 : Hid (s.col ≤ 1000000000) := Lib.hid (by omega)
  have HBW : Hid (W.heap.size ≤ B) := Lib.hid (by omega)
  have HbW := Lib.hid hbW
  have hne : w.heap.size ≠ b := by omega
  have HM0 : Hid (0 ≤ min (t.line - s.line) 200) := Lib.hid (by omega)
  have HM1 : Hid (min (t.line - s.line) 200 ≤ 200) := Lib.hid (by omega)
  have HM2 : Hid (min (t.line - s.line) 200 ≤ 1000000) := Lib.hid (by omega)
  have HLI : Hid (Lies 59 [Value.int .i64 s.line, .int .i64 s.col, .bool s.first].length) := Lib.hid lies3
  have HLF : Hid (s.out.length + (⟨(rp 10 (min (t.line - s.line) 200).toNat).toArray⟩ : ByteArray).size ≤ 1000000000) := Lib.hid (by rw [rpB_size]; omega)
  obtain ⟨s0, HS0⟩ : ∃ s0 : WS, Hid (s0 = ⟨s.out ++ rp 10 (min (t.line - s.line) 200).toNat, s.line + min (t.line - s.line) 200, 1, true⟩) := ⟨_, Lib.hid rfl⟩
  have HL0 : Hid (s0.out.length ≤ 100001000) := Lib.hid (by rw [HS0.out]; simp only [List.length_append, rp_len]; omega)
  have HD0 : Hid (0 ≤ s0.col) := Lib.hid (by rw [HS0.out]; show (0:Int) ≤ 1; decide)
  have HD1 : Hid (s0.col ≤ 1000000000) := Lib.hid (by rw [HS0.out]; show (1:Int) ≤ 1000000000; decide)
  obtain ⟨N, HN⟩ : ∃ N : Nat, Hid ((t.col - 1).toNat = N) := ⟨_, Lib.hid rfl⟩
  have HNI : Hid (((N : Nat) : Int) = t.col - 1) := Lib.hid (by rw [← HN.out]; omega)
  obtain ⟨s1, HS1⟩ : ∃ s1 : WS, Hid (s1 = ⟨s0.out ++ rp 32 N, s0.line, s0.col + (({ data := (rp 32 N).toArray } : ByteArray).size : Nat), s0.first⟩) := ⟨_, Lib.hid rfl⟩
  have HS2 : Hid (s1 = ⟨s0.out ++ rp 32 N, s0.line, 1 + (t.col - 1), s0.first⟩) := Lib.hid (by rw [HS1.out, rpB_size, HNI.out, HS0.out])
  have HT : Hid (tokS s t = ⟨s1.out ++ (txB t).data.toList, s1.line, s1.col + (txB t).size, false⟩) := Lib.hid (by unfold tokS feedS; rw [if_pos hl]; unfold colS; rw [if_pos ⟨hc, hc'⟩, HS2.out, HS0.out, ← HN.out])
  have HR0 : Hid (0 ≤ t.col - 1) := Lib.hid (by omega)
  have HR1 : Hid (t.col - 1 ≤ 1000000) := Lib.hid (by omega)
  have HLR : Hid (s0.out.length + (⟨(rp 32 N).toArray⟩ : ByteArray).size ≤ 1000000000) := Lib.hid (by rw [rpB_size]; have := HL0.out; have := HNI.out; omega)
  have HLN : Hid (s1.out.length + (txB t).size ≤ 1000000000) := Lib.hid (by rw [HS2.out]; simp only [List.length_append, rp_len]; have := HL0.out; have := HNI.out; omega)
  have HE0 : Hid (0 ≤ s1.col) := Lib.hid (by rw [HS2.out]; show 0 ≤ 1 + (t.col - 1); omega)
  have HE1 : Hid (s1.col ≤ 1000000000) := Lib.hid (by rw [HS2.out]; show 1 + (t.col - 1) ≤ _; omega)
  have hx0 : decide (1 < t.col) = true := by simp; omega
  have hx1 : decide (t.col ≤ 1000) = true := by simp; omega
  have hll : decide (s.line < t.line) = true := by simp; omega
  have hmn0 : 0 ≤ min (t.line - s.line) 200 := by omega
  have hmn1 : min (t.line - s.line) 200 ≤ 200 := by omega
  rw [HT.out]
  clear hx hl hc hc'
  go_enter Tryz.func28, Tryz.ntmps28
  go_wp2
  go_region
  all_goals
    go_wp2
    go_region
    all_goals
      go_wp2
      go_region_with (go_loud (first | (go_at_call 75; ((with_reducible refine (Repeat_i 10 (min (t.line - s.line) 200) _ HM0.out HM2.out).mono ?_); rintro r wr ⟨rfl, hOr⟩; have hWr : BB wr b 59 [.int .i64 s.line, .int .i64 s.col, .bool s.first] B s.out := BB.keep hW1 hOr; have hZr := Nat.le_trans hZ1 hOr.size)) | (go_at_call 74; ((with_reducible refine (WriteString_p hWr HLI.out ⟨(rp 10 (min (t.line - s.line) 200).toNat).toArray⟩ HLF.out hZr).mono ?_); rintro r wt ⟨rfl, hBt, hOt, hFt⟩))))
      all_goals
        have c2 := BA.r2 hBt
        have c3 := BA.r3 hBt
        have c4 := BA.r4 hBt
        have z2 := BA.fz hBt 2
        have z3 := BA.fz hBt 3
        have z4 := BA.fz hBt 4
        have HGt := TC.fine (TC.keepB HG1.out hOr) hFt hne
        obtain ⟨p0, p1, p2, p3, p4, p5, p6⟩ := TC.of_block HGt
        have hWz : WB (((wt.setCell ⟨b, 2, none⟩ (.int .i64 (s.line + min (t.line - s.line) 200))).setCell ⟨b, 3, none⟩ (.int .i64 1)).setCell ⟨b, 4, none⟩ (.bool true)) b B s0 := by (rw [HS0.out]; exact BB.set4 (BB.set3 (BB.set2 (.inr hBt) _) _) _)
        have hOz : Only (fun k => k = b ∨ B ≤ k) w (((wt.setCell ⟨b, 2, none⟩ (.int .i64 (s.line + min (t.line - s.line) 200))).setCell ⟨b, 3, none⟩ (.int .i64 1)).setCell ⟨b, 4, none⟩ (.bool true)) := Only.setCell (k := 4) (Only.setCell (k := 3) (Only.setCell (k := 2) ((hA2.trans hOr).lift.trans hOt) (.inl rfl) _) (.inl rfl) _) (.inl rfl) _
        have hFz : Only (Fine w b) w (((wt.setCell ⟨b, 2, none⟩ (.int .i64 (s.line + min (t.line - s.line) 200))).setCell ⟨b, 3, none⟩ (.int .i64 1)).setCell ⟨b, 4, none⟩ (.bool true)) := Only.setCell (k := 4) (Only.setCell (k := 3) (Only.setCell (k := 2) (fine_of (hA2.trans hOr) hFt) (.inl rfl) _) (.inl rfl) _) (.inl rfl) _
        have hQz : Q W (((wt.setCell ⟨b, 2, none⟩ (.int .i64 (s.line + min (t.line - s.line) 200))).setCell ⟨b, 3, none⟩ (.int .i64 1)).setCell ⟨b, 4, none⟩ (.bool true)) := hq.only hOz (fun i hi => hi.elim (fun h => by rw [h]; exact HbW.out) (fun h => Nat.le_trans HBW.out h))
        have hFy : Only (Fine (tokA w t) b) (tokA w t) (((wt.setCell ⟨b, 2, none⟩ (.int .i64 (s.line + min (t.line - s.line) 200))).setCell ⟨b, 3, none⟩ (.int .i64 1)).setCell ⟨b, 4, none⟩ (.bool true)) := Only.setCell (k := 4) (Only.setCell (k := 3) (Only.setCell (k := 2) (fine_of (Only.trans (Only.refl _ _).drew.drew.drew hOr) hFt) (.inl rfl) _) (.inl rfl) _) (.inl rfl) _
        have hZz : B ≤ (((wt.setCell ⟨b, 2, none⟩ (.int .i64 (s.line + min (t.line - s.line) 200))).setCell ⟨b, 3, none⟩ (.int .i64 1)).setCell ⟨b, 4, none⟩ (.bool true)).heap.size := Nat.le_trans hBw hOz.size
        go_wp2
        go_region
        all_goals
          go_wp2
          go_region_with (go_loud (first | (go_at_call 76; ((with_reducible refine (wtext_p (s := s0) hWq ⟨(rp 32 N).toArray⟩ HLR.out hZq HD0.out HD1.out).mono ?_); rintro r wv ⟨rfl, hWv0, hOv, hFv⟩; have hWv : WB wv b B s1 := by (rw [HS1.out]; exact hWv0))) | (go_at_call 75; ((with_reducible refine (Repeat_v 32 (t.col - 1) N _ HN.out HR0.out HR1.out).mono ?_); rintro r wq ⟨rfl, hOq⟩; have hWq : WB wq b B s0 := BB.keep (show WB (((wt.setCell ⟨b, 2, none⟩ (.int .i64 (s.line + min (t.line - s.line) 200))).setCell ⟨b, 3, none⟩ (.int .i64 1)).setCell ⟨b, 4, none⟩ (.bool true)).drew.drew b B s0 from hWz) hOq; have hZq := Nat.le_trans (show B ≤ (((wt.setCell ⟨b, 2, none⟩ (.int .i64 (s.line + min (t.line - s.line) 200))).setCell ⟨b, 3, none⟩ (.int .i64 1)).setCell ⟨b, 4, none⟩ (.bool true)).drew.drew.heap.size from hZz) hOq.size))))
          all_goals
            have HGv := TC.fine (TC.keepB (TC.fine HG0.out (show Only (Fine (tokA w t) b) (tokA w t) (((wt.setCell ⟨b, 2, none⟩ (.int .i64 (s.line + min (t.line - s.line) 200))).setCell ⟨b, 3, none⟩ (.int .i64 1)).setCell ⟨b, 4, none⟩ (.bool true)).drew.drew from hFy.drew.drew) hne) hOq) hFv hne
            obtain ⟨p0, p1, p2, p3, p4, p5, p6⟩ := TC.of_block HGv
            have c2 := BB.r2 hWv
            have c3 := BB.r3 hWv
            have c4 := BB.r4 hWv
            have z4 := BB.fz hWv 4
            have hQv : Q W wv := ((hQz.below (Below.refl _ _).drew.drew).only hOq (fun _ h => h.elim)).only hOv (fun i hi => hi.elim (fun h => by rw [h]; exact HbW.out) (fun h => Nat.le_trans HBW.out h))
            have hZv := Nat.le_trans hZq hOv.size
            go_wp2_with (go_loud (first | (go_at_call 77; refine (textOf_p t _ _ (hQv) hn0 hn1 hz1 hz2).mono ?_; rintro r wa ⟨rfl, hOa⟩; have hWa : WB wa b B (s1) := BB.keep (hWv) hOa; have hZa := Nat.le_trans (hZv) hOa.size) | (go_at_call 76; ((with_reducible refine (wtext_p (s := s1) hWa (txB t) HLN.out hZa HE0.out HE1.out).mono ?_); rintro r wb ⟨rfl, hWb, hOb, hFb⟩; have c2 := BB.r2 hWb; have c3 := BB.r3 hWb; have c4 := BB.r4 hWb; have z4 := BB.fz hWb 4))))
            go_end0
            exact ⟨rfl, BB.set4 hWb _, Only.setCell (k := 4) ((((hOz.trans (Only.lift (Only.trans (Only.refl _ _).drew.drew hOq))).trans hOv).trans hOa.lift).trans hOb) (.inl rfl) _, Only.setCell (k := 4) (Only.fine2 (Only.fine2 hFz (fine_of (Only.trans (Only.refl _ _).drew.drew hOq) hFv)) (fine_of hOa hFb)) (.inl rfl) _⟩

end
end Go.Proofs.YtelichlplblboaaGreatDoor
namespace Go.Proofs.YtelichlplblboaaGreatDoor
open Go.RowKit Go.Maps
section
variable {W w : World} {b B : Nat} {s : WS}
theorem token_p (hq : Q W w) (h : WB w b B s) (t : Tok) (hn0 : -9223372036854775808 ≤ t.n) (hn1 : t.n ≤ 9223372036854775807) (hz1 : t.qual.size ≤ 1000000) (hz2 : t.text.size ≤ 1000000) (hx : (txB t).size ≤ 10000000) (hlen : s.out.length ≤ 100000000) (hBw : B ≤ w.heap.size) (hbB : b < B) (hc0 : 1 ≤ s.col) (hc1 : s.col ≤ 100000000) (hl0 : 1 ≤ s.line) (hl1 : s.line ≤ 1000000000) (hbW : W.heap.size ≤ b) (ht0 : t.line ≤ 9223372036854775807) (ht1 : -9223372036854775808 ≤ t.line) :
    Calls Tryz.prog 28 #[.pointer (some ⟨b, 0, none⟩), tokV t] w (WPost w b B (tokS s t)) := by
  by_cases hl : s.line < t.line
  · by_cases hc : 1 < t.col ∧ t.col ≤ 1000
    · exact tok_fe_sp hq h t hn0 hn1 hz1 hz2 hx hlen hBw hbB hc0 hc1 hl0 hl1 hbW ht0 hl hc.1 hc.2
    · exact tok_fe_no hq h t hn0 hn1 hz1 hz2 hx hlen hBw hbB hc0 hc1 hl0 hl1 hbW ht0 hl hc
  · by_cases hc : s.col < t.col ∧ t.col ≤ 1000
    · exact tok_sp hq h t hn0 hn1 hz1 hz2 hx hlen hBw hbB hc0 hc1 hl0 hl1 hbW (by omega) hc.1 hc.2
    · cases hf : s.first
      · exact tok_bl hq h t hn0 hn1 hz1 hz2 hx hlen hBw hbB hc0 hc1 hl0 hl1 hbW (by omega) hc hf
      · exact tok_no hq h t hn0 hn1 hz1 hz2 hx hlen hBw hbB hc0 hc1 hl0 hl1 (by omega) hc hf
end
section
variable {w : World} {b B : Nat} {T : TypeId} {rest : List Value} {l : List UInt8}
set_option maxHeartbeats 1000000 in
set_option maxRecDepth 100000 in
theorem String_nil {p : Value} (hbk : w.heap[b]? = some (.cells (p :: .slice none 0 0 :: rest).toArray T (0, 0))) :
    Calls Tryz.prog 30 #[.pointer (some ⟨b, 0, none⟩)] w fun e w' => e = .returned (.string ⟨#[]⟩) ∧ Only (fun k => B ≤ k) w w' := by
  · have c1 : w.drew.cell? ⟨b, 1, none⟩ = some (.slice none 0 0) := by
      have : w.drew.heap[b]? = some (.cells (p :: .slice none 0 0 :: rest).toArray T (0, 0)) := hbk
      simp [World.cell?, this]
    have hSD : (Builtin.unsafeSliceData_ #[31] 87 #[.slice none 0 0]).run Tryz.prog w.drew = .ok (.pointer none) w.drew := Lib.run_unsafeSliceData_nil _ _ _ _ _
    have hUS : (Builtin.unsafeString_ #[87, 3] 9 #[.pointer none, .int .i64 0]).run Tryz.prog w.drew = .ok (.string .empty) w.drew := Lib.run_unsafeString_none _ _ _ _ _
    clear hbk
    go_enter Tryz.func30, Tryz.ntmps30
    go_wp2
    go_region
    all_goals (go_wp2; go_ret; exact ⟨rfl, Only.of_below (Below.refl _ _).drew⟩)
end
end Go.Proofs.YtelichlplblboaaGreatDoor
namespace Go.Proofs.YtelichlplblboaaGreatDoor
open Go.RowKit Go.Maps
/-- What the writer has after these tokens, if it is not too long. -/
def renL (s : WS) : List Tok → Option WS
  | [] => some s
  | t :: ts => if 65536 < (tokS s t).out.length then none else renL (tokS s t) ts
/-- What Render answers. -/
def renR (ts : List Tok) : ByteArray × Int :=
  if ts.all prT then (if 16384 < ts.length then (⟨#[]⟩, 3) else match renL ⟨[], 1, 1, true⟩ ts with | some s => (⟨s.out.toArray⟩, 0) | none => (⟨#[]⟩, 3)) else (⟨#[]⟩, 1)
theorem BB.lt {w : World} {b B : Nat} {T : TypeId} {rest : List Value} {l : List UInt8} (h : BB w b T rest B l) : b < w.heap.size := h.elim BA.lt BA.lt
structure TokOk (t : Tok) : Prop where
  n0 : -9223372036854775808 ≤ t.n
  n1 : t.n ≤ 9223372036854775807
  q : t.qual.size ≤ 65536
  x : t.text.size ≤ 65536
  l0 : -9223372036854775808 ≤ t.line
  l1 : t.line ≤ 9223372036854775807
theorem qtL_len (q : UInt8) (l : List UInt8) : (qtL q l).length ≤ 4 * l.length + 2 := by unfold qtL; rw [List.length_append]; have := qtB_len q l; simp; omega
theorem txB_size {t : Tok} (h : TokOk t) : (txB t).size ≤ 10000000 := by
  have h1 := Lib.itoa_length_le t.n h.n0 h.n1
  have h2 := h.q
  have h3 := h.x
  have e3 : t.text.data.toList.length = t.text.size := (Lib.size_eq _).symm
  unfold txB
  split
  · show (Lib.itoa t.n).toArray.size ≤ _; rw [List.size_toArray]; omega
  split
  · unfold qcB; split
    · show (qtL 39 [t.n.toNat.toUInt8]).toArray.size ≤ _; rw [List.size_toArray]; have h := qtL_len 39 [t.n.toNat.toUInt8]; have e1 : [t.n.toNat.toUInt8].length = 1 := rfl; omega
    · show (0 : Nat) ≤ _; omega
  split
  · show (qtL 34 t.text.data.toList).toArray.size ≤ _; rw [List.size_toArray]; have := qtL_len 34 t.text.data.toList; omega
  split
  · omega
  · simp only [ByteArray.size_append]; show t.qual.size + 1 + t.text.size ≤ _; omega
/-- The writer's numbers are those of its text. -/
structure Fit (s : WS) : Prop where
  c0 : 1 ≤ s.col
  c1 : s.col ≤ 1 + s.out.length
  l0 : 1 ≤ s.line
  l1 : s.line ≤ 1 + s.out.length
theorem Fit.feed {s : WS} (h : Fit s) (line : Int) : Fit (feedS s line) := by
  obtain ⟨h1, h2, h3, h4⟩ := h
  unfold feedS; split
  · constructor <;> simp only [List.length_append, rp_len] <;> omega
  · exact ⟨h1, h2, h3, h4⟩
theorem Fit.blank {s : WS} (h : Fit s) (col : Int) : Fit (colS s col) := by
  obtain ⟨h1, h2, h3, h4⟩ := h
  unfold colS; split
  · constructor <;> simp only [List.length_append, rp_len] <;> omega
  split
  · exact ⟨h1, h2, h3, h4⟩
  · constructor <;> simp only [List.length_append, List.length_singleton] <;> omega
theorem Fit.tok {s : WS} (h : Fit s) (t : Tok) : Fit (tokS s t) := by
  obtain ⟨h1, h2, h3, h4⟩ := (h.feed t.line).blank t.col
  unfold tokS
  have e : (txB t).data.toList.length = (txB t).size := (Lib.size_eq _).symm
  constructor <;> simp only [List.length_append, e] <;> omega
theorem tok_out {s : WS} {t : Tok} (h : (txB t).size ≠ 0) : (tokS s t).out ≠ [] := by
  intro hc
  have e : (txB t).data.toList.length = (txB t).size := (Lib.size_eq _).symm
  have : ((tokS s t).out).length = 0 := by rw [hc]; rfl
  unfold tokS at this
  simp only [List.length_append, e] at this
  omega
/-- isTokenPrintable answers so for these tokens. -/
def PrtOk (W : World) (ts : List Tok) : Prop := ∀ t ∈ ts, ∀ w', Q W w' → Calls Tryz.prog 27 #[tokV t] w' fun e w'' => e = .returned (.bool (prT t)) ∧ Only (fun _ => False) w' w''
theorem all_take {ts : List Tok} {k : Nat} (h : (ts.take k).all prT = true) (hk : k < ts.length) (hp : prT ts[k] = true) : (ts.take (k + 1)).all prT = true := by
  rw [List.take_succ_eq_append_getElem hk, List.all_append, h]; simp [hp]
theorem all_no {ts : List Tok} {k : Nat} (hk : k < ts.length) (hp : prT ts[k] = false) : ts.all prT = false := by
  rw [List.all_eq_false]; exact ⟨ts[k], List.getElem_mem hk, by rw [hp]; decide⟩
set_option maxRecDepth 100000 in
set_option maxHeartbeats 4000000 in
theorem Render_no (W w : World) (hq : Q W w) (oa : Option Addr) (n ca : Nat) (ts : List Tok) (hn : n ≤ 1000000) (hts : Tks w oa n ts) (hp : PrtOk W ts) (ha : ts.all prT = false) :
    Calls Tryz.prog 15 #[.slice oa n ca] w fun e w' => e = .returned (.tuple #[.string ⟨#[]⟩, .int .i64 1]) ∧ Only (fun j => w.heap.size ≤ j) w w' := by
  have HL := Lib.hid hts.len
  have HA := Lib.hid ha
  clear ha
  go_enter Tryz.func15, Tryz.ntmps15
  go_wp2
  go_loopw [11] (fun i wr => ∃ k : Nat, k ≤ n ∧ i = .int .i64 k ∧ Hid ((ts.take k).all prT = true) ∧ Only (fun j => w.heap.size ≤ j) w wr) (fun i _ => n - (intOf i).toNat)
  case atStart => exact ⟨0, by omega, rfl, Lib.hid rfl, Only.refl _ _⟩
  case round =>
    obtain ⟨k, hk, rfl, HK, hO⟩ := hrel
    by_cases hlt : k < n
    · have hka : k < ts.length := by rw [HL.out]; exact hlt
      obtain ⟨b, o, rfl, hc0⟩ := hts.cell k hka
      have hbw : b < w.heap.size := cell_lt hc0.c0
      have hc := hc0.only hO (by omega)
      obtain ⟨x, hx⟩ : ∃ x, ts[k] = x := ⟨_, rfl⟩
      obtain ⟨v, hv⟩ : ∃ v, prT x = v := ⟨_, rfl⟩
      rw [hx] at hc
      have HX := Lib.hid hx
      have HPV := Lib.hid hv
      have HPX : Hid (∀ w', Q W w' → Calls Tryz.prog 27 #[tokV x] w' fun e w'' => e = .returned (.bool (prT x)) ∧ Only (fun _ => False) w' w'') := Lib.hid (hp x (by rw [← hx]; exact List.getElem_mem hka))
      have hQr : Q W wr := hq.only hO (fun i hi => Nat.le_trans hq.bel.size hi)
      have hQx : Q W (tokA wr x) := hQr.below ((Below.refl _ _).alloc (Nat.le_refl _) _)
      have hOx : Only (fun j => w.heap.size ≤ j) w (tokA wr x) := hO.trans (tokA_only wr x).lift
      obtain ⟨p0, p1, p2, p3, p4, p5, p6⟩ := hc
      clear hx hv hc0
      cases v
      · go_wp2_with (go_loud (first | (go_at_call 27; ((with_reducible refine (HPX.out _ hQx).mono ?_); rw [HPV.out]; rintro e w1 ⟨rfl, hO1⟩))))
        exact bodyPost_ret (v := .tuple #[.string ⟨#[]⟩, .int .i64 1]) (by simp [results, Tryz.results15, go_sem]) rfl ⟨rfl, hOx.trans hO1.lift⟩
      · go_wp2_with (go_loud (first | (go_at_call 27; ((with_reducible refine (HPX.out _ hQx).mono ?_); rw [HPV.out]; rintro e w1 ⟨rfl, hO1⟩))))
        go_roundw
        case rel => exact ⟨k + 1, by omega, by go_num, Lib.hid (all_take HK.out hka (by rw [HX.out]; exact HPV.out)), hOx.trans hO1.lift⟩
        case measure => simp [intOf]; omega
    · exfalso
      have := HK.out
      rw [List.take_of_length_le (by rw [HL.out]; omega), HA.out] at this
      cases this
set_option maxRecDepth 100000 in
set_option maxHeartbeats 4000000 in
theorem Render_long (W w : World) (hq : Q W w) (oa : Option Addr) (n ca : Nat) (ts : List Tok) (hn : n ≤ 1000000) (hts : Tks w oa n ts) (hp : PrtOk W ts) (ha : ts.all prT = true) (hl : 16384 < ts.length) :
    Calls Tryz.prog 15 #[.slice oa n ca] w fun e w' => e = .returned (.tuple #[.string ⟨#[]⟩, .int .i64 3]) ∧ Only (fun j => w.heap.size ≤ j) w w' := by
  have HL := Lib.hid hts.len
  have HA := Lib.hid ha
  have hnl : 16384 < n := by rw [← HL.out]; exact hl
  clear ha hl
  go_enter Tryz.func15, Tryz.ntmps15
  go_wp2
  go_loopw [11] (fun i wr => ∃ k : Nat, k ≤ n ∧ i = .int .i64 k ∧ Only (fun j => w.heap.size ≤ j) w wr) (fun i _ => n - (intOf i).toNat)
  case atStart => exact ⟨0, by omega, rfl, Only.refl _ _⟩
  case round =>
    obtain ⟨k, hk, rfl, hO⟩ := hrel
    by_cases hlt : k < n
    · have hka : k < ts.length := by rw [HL.out]; exact hlt
      obtain ⟨b, o, rfl, hc0⟩ := hts.cell k hka
      have hbw : b < w.heap.size := cell_lt hc0.c0
      have hc := hc0.only hO (by omega)
      obtain ⟨x, hx⟩ : ∃ x, ts[k] = x := ⟨_, rfl⟩
      rw [hx] at hc
      have HX := Lib.hid hx
      have HPV : Hid (prT x = true) := Lib.hid (by rw [← hx]; exact List.all_eq_true.1 HA.out _ (List.getElem_mem hka))
      have HPX : Hid (∀ w', Q W w' → Calls Tryz.prog 27 #[tokV x] w' fun e w'' => e = .returned (.bool (prT x)) ∧ Only (fun _ => False) w' w'') := Lib.hid (hp x (by rw [← hx]; exact List.getElem_mem hka))
      have hQr : Q W wr := hq.only hO (fun i hi => Nat.le_trans hq.bel.size hi)
      have hQx : Q W (tokA wr x) := hQr.below ((Below.refl _ _).alloc (Nat.le_refl _) _)
      have hOx : Only (fun j => w.heap.size ≤ j) w (tokA wr x) := hO.trans (tokA_only wr x).lift
      obtain ⟨p0, p1, p2, p3, p4, p5, p6⟩ := hc
      clear hx hc0
      go_wp2_with (first | (go_at_call 27; ((with_reducible refine (HPX.out _ hQx).mono ?_); rw [HPV.out]; rintro e w1 ⟨rfl, hO1⟩)))
      go_roundw
      case rel => exact ⟨k + 1, by omega, by go_num, hOx.trans hO1.lift⟩
      case measure => simp [intOf]; omega
    · go_wp2
      exact bodyPost_ret (v := .tuple #[.string ⟨#[]⟩, .int .i64 3]) (by simp [results, Tryz.results15, go_sem]) rfl ⟨rfl, hO⟩
theorem renL_step {ts : List Tok} {k : Nat} (s : WS) (hk : k < ts.length) (t : Tok) (ht : ts[k] = t) : renL s (ts.drop k) = if 65536 < (tokS s t).out.length then none else renL (tokS s t) (ts.drop (k + 1)) := by
  rw [List.drop_eq_getElem_cons hk, ht]; rfl
/-- What Render's call leaves. -/
def RenPost (w : World) (R : ByteArray × Int) (e : Ending) (w' : World) : Prop := e = .returned (.tuple #[.string R.1, .int .i64 R.2]) ∧ Only (fun j => w.heap.size ≤ j) w w'
set_option maxRecDepth 100000 in
set_option maxHeartbeats 4000000 in
theorem Render_yes (W w : World) (hq : Q W w) (oa : Option Addr) (n ca : Nat) (ts : List Tok) (hn : n ≤ 1000000) (hts : Tks w oa n ts) (hp : PrtOk W ts) (ha : ts.all prT = true) (hl : ts.length ≤ 16384) (hok : ∀ t ∈ ts, TokOk t) (hne : ∀ t ∈ ts, (txB t).size ≠ 0) :
    Calls Tryz.prog 15 #[.slice oa n ca] w (RenPost w (match renL ⟨[], 1, 1, true⟩ ts with | some s => (⟨s.out.toArray⟩, 0) | none => (⟨#[]⟩, 3))) := by
  have HL := Lib.hid hts.len
  have HA := Lib.hid ha
  have HOK := Lib.hid hok
  have HNE := Lib.hid hne
  have hnl : n ≤ 16384 := by rw [← HL.out]; exact hl
  obtain ⟨R, hR⟩ : ∃ R, (match renL ⟨[], 1, 1, true⟩ ts with | some s => ((⟨s.out.toArray⟩ : ByteArray), (0 : Int)) | none => (⟨#[]⟩, 3)) = R := ⟨_, rfl⟩
  rw [hR]
  have HR := Lib.hid hR
  clear ha hl hok hne hR
  go_enter Tryz.func15, Tryz.ntmps15
  go_wp2
  go_loopw [11] (fun i wr => ∃ k : Nat, k ≤ n ∧ i = .int .i64 k ∧ Only (fun j => w.heap.size ≤ j) w wr) (fun i _ => n - (intOf i).toNat)
  case atStart => exact ⟨0, by omega, rfl, Only.refl _ _⟩
  case round =>
    obtain ⟨k, hk, rfl, hO⟩ := hrel
    by_cases hlt : k < n
    · have hka : k < ts.length := by rw [HL.out]; exact hlt
      obtain ⟨b, o, rfl, hc0⟩ := hts.cell k hka
      have hbw : b < w.heap.size := cell_lt hc0.c0
      have hc := hc0.only hO (by omega)
      obtain ⟨x, hx⟩ : ∃ x, ts[k] = x := ⟨_, rfl⟩
      rw [hx] at hc
      have HX := Lib.hid hx
      have HPV : Hid (prT x = true) := Lib.hid (by rw [← hx]; exact List.all_eq_true.1 HA.out _ (List.getElem_mem hka))
      have HPX : Hid (∀ w', Q W w' → Calls Tryz.prog 27 #[tokV x] w' fun e w'' => e = .returned (.bool (prT x)) ∧ Only (fun _ => False) w' w'') := Lib.hid (hp x (by rw [← hx]; exact List.getElem_mem hka))
      have hQr : Q W wr := hq.only hO (fun i hi => Nat.le_trans hq.bel.size hi)
      have hQx : Q W (tokA wr x) := hQr.below ((Below.refl _ _).alloc (Nat.le_refl _) _)
      have hOx : Only (fun j => w.heap.size ≤ j) w (tokA wr x) := hO.trans (tokA_only wr x).lift
      obtain ⟨p0, p1, p2, p3, p4, p5, p6⟩ := hc
      clear hx hc0
      go_wp2_with (first | (go_at_call 27; ((with_reducible refine (HPX.out _ hQx).mono ?_); rw [HPV.out]; rintro e w1 ⟨rfl, hO1⟩)))
      go_roundw
      case rel => exact ⟨k + 1, by omega, by go_num, hOx.trans hO1.lift⟩
      case measure => simp [intOf]; omega
    · obtain ⟨w0, hw0⟩ : ∃ w0, w0 = wr := ⟨_, rfl⟩
      have hG : (wr.alloc (.cells #[.pointer none, .slice none 0 0, .int .i64 1, .int .i64 1, .bool true] 59)).heap[wr.heap.size]? = some (.cells #[.pointer none, .slice none 0 0, .int .i64 1, .int .i64 1, .bool true] 59 (0, 0)) := new_block wr _
      have hWS : WB (wr.alloc (.cells #[.pointer none, .slice none 0 0, .int .i64 1, .int .i64 1, .bool true] 59)) wr.heap.size (wr.heap.size + 1) ⟨[], 1, 1, true⟩ := .inl ⟨by omega, _, hG, ⟨by simp, .inl ⟨rfl, rfl⟩⟩⟩
      have hOS : Only (fun j => w.heap.size ≤ j) w (wr.alloc (.cells #[.pointer none, .slice none 0 0, .int .i64 1, .int .i64 1, .bool true] 59)) := hO.trans (Only.of_below ((Below.refl _ _).alloc (Nat.le_refl _) _))
      have hZS : (wr.alloc (.cells #[.pointer none, .slice none 0 0, .int .i64 1, .int .i64 1, .bool true] 59)).heap.size = wr.heap.size + 1 := by show (wr.heap.push _).size = _; simp
      have hbw : w.heap.size ≤ wr.heap.size := hO.size
      have HG := Lib.hid hG
      clear hG
      have HB : Hid (wr.heap.size + 1 ≤ (wr.alloc (.cells #[.pointer none, .slice none 0 0, .int .i64 1, .int .i64 1, .bool true] 59)).heap.size) := Lib.hid (by rw [hZS]; omega)
      obtain ⟨b, hbe⟩ : ∃ b, wr.heap.size = b := ⟨_, rfl⟩
      have HbW : Hid (W.heap.size ≤ b) := Lib.hid (by have := hq.bel.size; omega)
      clear hZS hw0
      go_wp2
      go_loopw [25] (fun i wq => ∃ (k : Nat) (s : WS), k ≤ n ∧ i = .int .i64 k ∧ Hid (renL ⟨[], 1, 1, true⟩ ts = renL s (ts.drop k)) ∧ WB wq b (b + 1) s ∧ Only (fun j => w.heap.size ≤ j) w wq ∧ Hid (Fit s ∧ s.out.length ≤ 65536) ∧ Hid (s.out = [] → wq.heap[b]? = some (.cells #[.pointer none, .slice none 0 0, .int .i64 1, .int .i64 1, .bool true] 59 (0, 0)))) (fun i _ => n - (intOf i).toNat)
      case atStart => exact ⟨0, ⟨[], 1, 1, true⟩, by omega, rfl, Lib.hid rfl, by rw [← hbe]; exact hWS, hOS, Lib.hid ⟨⟨by decide, by decide, by decide, by decide⟩, by decide⟩, Lib.hid (fun _ => by rw [← hbe]; exact HG.out)⟩
      case round =>
        obtain ⟨k, s, hk, rfl, HE, hWq, hOq, HF, HN⟩ := hrel
        by_cases hlt : k < n
        · have hka : k < ts.length := by rw [HL.out]; exact hlt
          obtain ⟨c, o, rfl, hc0⟩ := hts.cell k hka
          have hcw : c < w.heap.size := cell_lt hc0.c0
          have hc := hc0.only hOq (by omega)
          obtain ⟨x, hx⟩ : ∃ x, ts[k] = x := ⟨_, rfl⟩
          rw [hx] at hc
          have HX := Lib.hid hx
          obtain ⟨hn0, hn1, hz1, hz2, ht1, ht0⟩ := HOK.out x (by rw [← hx]; exact List.getElem_mem hka)
          have hTX := txB_size (HOK.out x (by rw [← hx]; exact List.getElem_mem hka))
          have HTN : Hid ((txB x).size ≠ 0) := Lib.hid (HNE.out x (by rw [← hx]; exact List.getElem_mem hka))
          obtain ⟨⟨hf1, hf2, hf3, hf4⟩, hf5⟩ := HF.out
          have HTK : Hid (∀ w', Only (fun _ => False) wr w' → Q W w' → Calls Tryz.prog 28 #[.pointer (some ⟨b, 0, none⟩), tokV x] w' (WPost w' b (b + 1) (tokS s x))) := Lib.hid (fun w' ho hqw => token_p hqw (BB.keep hWq ho) x hn0 hn1 (by omega) (by omega) hTX (by omega) (by have := BB.lt (BB.keep hWq ho); omega) (by omega) hf1 (by omega) hf3 (by omega) HbW.out ht0 ht1)
          have HF' : Hid (Fit (tokS s x)) := Lib.hid (HF.out.1.tok x)
          have HNO : Hid ((tokS s x).out ≠ []) := Lib.hid (tok_out HTN.out)
          have HST := Lib.hid (renL_step s hka x hx)
          have hQr : Q W wr := hq.only hOq (fun i hi => Nat.le_trans hq.bel.size hi)
          have hQx : Q W (tokA wr x) := hQr.below ((Below.refl _ _).alloc (Nat.le_refl _) _)
          have hOx : Only (fun j => w.heap.size ≤ j) w (tokA wr x) := hOq.trans (tokA_only wr x).lift
          have hOy := tokA_only wr x
          obtain ⟨p0, p1, p2, p3, p4, p5, p6⟩ := hc
          clear hx hc0 hn0 hn1 hz1 hz2 ht1 ht0 hTX hf1 hf2 hf3 hf4 hf5 hQr
          obtain ⟨s', hs'⟩ : ∃ s', tokS s x = s' := ⟨_, rfl⟩
          have HS' := Lib.hid hs'
          have hlong : decide (65536 < (s'.out.length : Int)) = true ∨ decide (65536 < (s'.out.length : Int)) = false := by cases decide (65536 < (s'.out.length : Int)) <;> simp
          clear hs'
          rcases hlong with hlong | hlong
          · have HRN : Hid (R = (⟨#[]⟩, 3)) := Lib.hid (by rw [← HR.out, HE.out, HST.out, HS'.out, if_pos (by simp at hlong; omega)])
            go_wp2_with (go_loud (first | (go_at_call 28; ((with_reducible refine (HTK.out _ hOy hQx).mono ?_); rw [HS'.out]; rintro r w1 ⟨rfl, hW1, hO1, -⟩; have hW1' : BB w1 b 59 [.int .i64 s'.line, .int .i64 s'.col, .bool s'.first] (b + 1) s'.out := hW1)) | (go_at_call 29; ((with_reducible refine (Len_p hW1').mono ?_); rintro r w2 ⟨rfl, rfl⟩))))
            exact bodyPost_ret (v := .tuple #[.string ⟨#[]⟩, .int .i64 3]) (by simp [results, Tryz.results15, go_sem]) rfl ⟨by rw [HRN.out], hOx.trans (hO1.wide (fun i hi => by omega))⟩
          · go_wp2_with (go_loud (first | (go_at_call 28; ((with_reducible refine (HTK.out _ hOy hQx).mono ?_); rw [HS'.out]; rintro r w1 ⟨rfl, hW1, hO1, -⟩; have hW1' : BB w1 b 59 [.int .i64 s'.line, .int .i64 s'.col, .bool s'.first] (b + 1) s'.out := hW1)) | (go_at_call 29; ((with_reducible refine (Len_p hW1').mono ?_); rintro r w2 ⟨rfl, rfl⟩))))
            go_roundw
            case rel => exact ⟨k + 1, s', by omega, by go_num, Lib.hid (by rw [HE.out, HST.out, HS'.out, if_neg (by simp at hlong; omega)]), hW1, hOx.trans (hO1.wide (fun i hi => by omega)), Lib.hid ⟨by rw [← HS'.out]; exact HF'.out, by simp at hlong; omega⟩, Lib.hid (fun h => absurd h (by rw [← HS'.out]; exact HNO.out))⟩
            case measure => simp [intOf]; omega
        · have HRS : Hid (R = (⟨s.out.toArray⟩, 0)) := Lib.hid (by rw [← HR.out, HE.out, List.drop_of_length_le (by rw [HL.out]; omega)]; rfl)
          by_cases he : s.out = []
          · have HE0 := Lib.hid he
            have HGN : Hid (wr.heap[b]? = some (.cells (.pointer none :: .slice none 0 0 :: [.int .i64 1, .int .i64 1, .bool true]).toArray 59 (0, 0))) := Lib.hid (HN.out he)
            go_wp2_with (go_loud (first | (go_at_call 30; ((with_reducible refine (String_nil (B := b + 1) HGN.out).mono ?_); rintro r w2 ⟨rfl, hO2⟩))))
            exact bodyPost_ret (v := .tuple #[.string ⟨#[]⟩, .int .i64 0]) (by simp [results, Tryz.results15, go_sem]) rfl ⟨by rw [HRS.out, HE0.out], hOq.trans (hO2.wide (fun i hi => by omega))⟩
          · have hWq' : BB wr b 59 [.int .i64 s.line, .int .i64 s.col, .bool s.first] (b + 1) s.out := hWq
            go_wp2_with (go_loud (first | (go_at_call 30; ((with_reducible refine (String_some hWq' he).mono ?_); rintro r w2 ⟨rfl, hO2⟩))))
            exact bodyPost_ret (v := .tuple #[.string ⟨s.out.toArray⟩, .int .i64 0]) (by simp [results, Tryz.results15, go_sem]) rfl ⟨by rw [HRS.out], hOq.trans (hO2.wide (fun i hi => by omega))⟩
end Go.Proofs.YtelichlplblboaaGreatDoor
