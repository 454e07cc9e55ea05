/-
  WALKS. Render's writer: a token.
-/
import Derived.Test.YtakojceggpljoaaGreatDoorWr
import Derived.Deep.RegionWith
namespace Go.Proofs.YtakojceggpljoaaGreatDoor
open Go.RowKit Go.Maps
def rp (c : UInt8) (n : Nat) : List UInt8 := Lib.repeatL [c] n
theorem rp_len (c : UInt8) (n : Nat) : (rp c n).length = n := by unfold rp; rw [Lib.repeatL_length]; simp
/-- The line feeds before a token. -/
def feedS (s : WS) (line : Int) : WS := if s.line < line then ⟨s.out ++ rp 10 (min (line - s.line) 200).toNat, s.line + min (line - s.line) 200, 1, true⟩ else s
/-- The blanks before a token. -/
def colS (s : WS) (col : Int) : WS := if s.col < col ∧ col ≤ 1000 then ⟨s.out ++ rp 32 (col - s.col).toNat, s.line, s.col + (col - s.col), s.first⟩ else if s.first then s else ⟨s.out ++ [32], s.line, s.col + 1, s.first⟩
def tokS (s : WS) (t : Tok) : WS := ⟨(colS (feedS s t.line) t.col).out ++ (txB t).data.toList, (colS (feedS s t.line) t.col).line, (colS (feedS s t.line) t.col).col + (txB t).size, false⟩
theorem Repeat_p (c : UInt8) (n : Nat) (w : World) (hn : n ≤ 1000000) :
    Calls Tryz.prog 75 #[.string ⟨#[c]⟩, .int .i64 n] w fun e w' => e = .returned (.string ⟨(rp c n).toArray⟩) ∧ Only (fun _ => False) w w' :=
  (Tryz.strings_Repeat ⟨#[c]⟩ n w (by omega) (by show 1 * n ≤ _; omega)).mono fun _ _ ⟨he, hb⟩ => ⟨he, Only.of_below hb⟩
/-- The token's block g stands through the writer's calls. -/
theorem TC.fine {w w' : World} {g b : Nat} {t : Tok} (h : w.heap[g]? = some (.cells #[.int .i64 t.op, .string t.qual, .string t.text, .int .i64 t.n, .bool t.auto, .int .i64 t.line, .int .i64 t.col] 38 (0, 0))) (ho : Only (Fine w b) w w') (hb : g ≠ b) : w'.heap[g]? = some (.cells #[.int .i64 t.op, .string t.qual, .string t.text, .int .i64 t.n, .bool t.auto, .int .i64 t.line, .int .i64 t.col] 38 (0, 0)) := by
  refine (ho.block g (lt_of_block h) (fun hc => ?_)).trans h
  rcases hc with hc | ⟨c, hc⟩
  · exact hb hc
  · rw [h] at hc; simp at hc
theorem TC.keepB {w w' : World} {g : Nat} {t : Tok} (h : w.heap[g]? = some (.cells #[.int .i64 t.op, .string t.qual, .string t.text, .int .i64 t.n, .bool t.auto, .int .i64 t.line, .int .i64 t.col] 38 (0, 0))) (ho : Only (fun _ => False) w w') : w'.heap[g]? = some (.cells #[.int .i64 t.op, .string t.qual, .string t.text, .int .i64 t.n, .bool t.auto, .int .i64 t.line, .int .i64 t.col] 38 (0, 0)) := (ho.block g (lt_of_block h) (fun h => h)).trans h
theorem fine_of {w w1 w2 : World} {b : Nat} (h : Only (fun _ => False) w w1) (h2 : Only (Fine w1 b) w1 w2) : Only (Fine w b) w w2 := Only.fine (h.wide (fun _ h => h.elim)) h2
section
variable {W w : World} {b B : Nat} {s : WS}
set_option maxRecDepth 100000 in
set_option maxHeartbeats 4000000 in
theorem tok_no (hq : Q W w) (h : WB w b B s) (t : Tok) (hn0 : -9223372036854775808 ≤ t.n) (hn1 : t.n ≤ 9223372036854775807) (hz1 : t.qual.size ≤ 1000000) (hz2 : t.text.size ≤ 1000000) (hx : (txB t).size ≤ 10000000) (hlen : s.out.length ≤ 100000000) (hBw : B ≤ w.heap.size) (hbB : b < B) (hc0 : 1 ≤ s.col) (hc1 : s.col ≤ 100000000) (hl0 : 1 ≤ s.line) (hl1 : s.line ≤ 1000000000) (hl : t.line ≤ s.line) (hc : ¬ (s.col < t.col ∧ t.col ≤ 1000)) (hf : s.first = true) :
    Calls Tryz.prog 28 #[.pointer (some ⟨b, 0, none⟩), tokV t] w (WPost w b B (tokS s t)) := by
  have hbw : b < w.heap.size := by omega
  have c2 := BB.r2 h
  have c3 := BB.r3 h
  have c4 := BB.r4 h
  have z2 := BB.fz h 2
  have z3 := BB.fz h 3
  have z4 := BB.fz h 4
  have hA := tokA_only w t
  have hW0 : WB (tokA w t) b B s := BB.keep h hA
  have hQ0 : Q W (tokA w t) := hq.below ((Below.refl _ _).alloc (Nat.le_refl _) _)
  have HG0 := Lib.hid (new_block w (.cells #[.int .i64 t.op, .string t.qual, .string t.text, .int .i64 t.n, .bool t.auto, .int .i64 t.line, .int .i64 t.col] 38))
  have hZ0 : B ≤ (tokA w t).heap.size := Nat.le_trans hBw hA.size
  have HX := Lib.hid hx
  have HT : Hid (tokS s t = ⟨s.out ++ (txB t).data.toList, s.line, s.col + (txB t).size, false⟩) := Lib.hid (by unfold tokS feedS colS; rw [if_neg (show ¬ s.line < t.line by omega), if_neg hc, if_pos hf])
  have HLN : Hid (s.out.length + (txB t).size ≤ 1000000000) := Lib.hid (by omega)
  have HC0 : Hid (0 ≤ s.col) := Lib.hid (by omega)
  have HC1 : Hid (s.col ≤ 1000000000) := Lib.hid (by omega)
  have hcc : (decide (s.col < t.col) = false) ∨ (decide (s.col < t.col) = true ∧ decide (t.col ≤ 1000) = false) := by simp; omega
  have hll : decide (s.line < t.line) = false := by simp; omega
  rw [HT.out]
  clear hc hx hl
  rcases hcc with hc | ⟨hc, hc'⟩
  all_goals
    go_enter Tryz.func28, Tryz.ntmps28
    go_wp2
    go_region
    all_goals
      go_wp2
      go_region
      all_goals
        go_wp2_with (go_loud (first | (go_at_call 77; refine (textOf_p t _ _ (hQ0.below (Below.refl _ _).drew.drew) hn0 hn1 hz1 hz2).mono ?_; rintro r wa ⟨rfl, hOa⟩; have hWa : WB wa b B (s) := BB.keep ((show WB (tokA w t).drew.drew b B s from hW0)) hOa; have hZa := Nat.le_trans ((show B ≤ (tokA w t).drew.drew.heap.size from hZ0)) hOa.size) | (go_at_call 76; ((with_reducible refine (wtext_p (s := s) hWa (txB t) HLN.out hZa HC0.out HC1.out).mono ?_); rintro r wb ⟨rfl, hWb, hOb, hFb⟩; have c2 := BB.r2 hWb; have c3 := BB.r3 hWb; have c4 := BB.r4 hWb; have z4 := BB.fz hWb 4))))
        go_end0
        exact ⟨rfl, BB.set4 hWb _, Only.setCell (k := 4) (((hA.trans ((Only.refl _ _).drew.drew)).trans hOa).lift.trans hOb) (.inl rfl) _, Only.setCell (k := 4) (fine_of (((hA.trans ((Only.refl _ _).drew.drew)).trans hOa)) hFb) (.inl rfl) _⟩
end
end Go.Proofs.YtakojceggpljoaaGreatDoor
