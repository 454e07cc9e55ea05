/-
  WALKS. Render's writer: a token after one blank; after line feeds.
-/
import Derived.Test.YtakojceggpljoaaGreatDoorWr3
namespace Go.Proofs.YtakojceggpljoaaGreatDoor
open Go.RowKit Go.Maps
section
variable {W w : World} {b B : Nat} {s : WS}
set_option maxRecDepth 100000 in
set_option maxHeartbeats 4000000 in
theorem tok_bl (hq : Q W w) (h : WB w b B s) (t : Tok) (hn0 : -9223372036854775808 ≤ t.n) (hn1 : t.n ≤ 9223372036854775807) (hz1 : t.qual.size ≤ 1000000) (hz2 : t.text.size ≤ 1000000) (hx : (txB t).size ≤ 10000000) (hlen : s.out.length ≤ 100000000) (hBw : B ≤ w.heap.size) (hbB : b < B) (hc0 : 1 ≤ s.col) (hc1 : s.col ≤ 100000000) (hl0 : 1 ≤ s.line) (hl1 : s.line ≤ 1000000000) (hbW : W.heap.size ≤ b) (hl : t.line ≤ s.line) (hc : ¬ (s.col < t.col ∧ t.col ≤ 1000)) (hf : s.first = false) :
    Calls Tryz.prog 28 #[.pointer (some ⟨b, 0, none⟩), tokV t] w (WPost w b B (tokS s t)) := by
  have hbw : b < w.heap.size := by omega
  have c2 := BB.r2 h
  have c3 := BB.r3 h
  have c4 := BB.r4 h
  have z2 := BB.fz h 2
  have z3 := BB.fz h 3
  have z4 := BB.fz h 4
  have hA := tokA_only w t
  have hW0 : WB (tokA w t) b B s := BB.keep h hA
  have hQ0 : Q W (tokA w t) := hq.below ((Below.refl _ _).alloc (Nat.le_refl _) _)
  have HG0 := Lib.hid (new_block w (.cells #[.int .i64 t.op, .string t.qual, .string t.text, .int .i64 t.n, .bool t.auto, .int .i64 t.line, .int .i64 t.col] 38))
  have hZ0 : B ≤ (tokA w t).heap.size := Nat.le_trans hBw hA.size
  have HX := Lib.hid hx
  have hA2 : Only (fun _ => False) w (tokA w t).drew.drew := hA.trans (Only.refl _ _).drew.drew
  have hW1 : WB (tokA w t).drew.drew b B s := hW0
  have hZ1 : B ≤ (tokA w t).drew.drew.heap.size := hZ0
  have hQ1 : Q W (tokA w t).drew.drew := hQ0.below (Below.refl _ _).drew.drew
  have HG1 : Hid ((tokA w t).drew.drew.heap[w.heap.size]? = some (.cells #[.int .i64 t.op, .string t.qual, .string t.text, .int .i64 t.n, .bool t.auto, .int .i64 t.line, .int .i64 t.col] 38 (0, 0))) := Lib.hid HG0.out
  have HC0 : Hid (0 ≤ s.col) := Lib.hid (by omega)
  have HC1 : Hid (s.col ≤ 1000000000) := Lib.hid (by omega)
  have HBW : Hid (W.heap.size ≤ B) := Lib.hid (by omega)
  have HbW := Lib.hid hbW
  have hne : w.heap.size ≠ b := by omega
  obtain ⟨s1, HS1⟩ : ∃ s1 : WS, Hid (s1 = ⟨s.out ++ [32], s.line, s.col + 1, s.first⟩) := ⟨_, Lib.hid rfl⟩
  have HT : Hid (tokS s t = ⟨s1.out ++ (txB t).data.toList, s1.line, s1.col + (txB t).size, false⟩) := Lib.hid (by unfold tokS feedS colS; rw [if_neg (show ¬ s.line < t.line by omega), if_neg hc, if_neg (by rw [hf]; decide), HS1.out])
  have HLR : Hid (s.out.length + (⟨#[32]⟩ : ByteArray).size ≤ 1000000000) := Lib.hid (by show s.out.length + 1 ≤ _; omega)
  have HLN : Hid (s1.out.length + (txB t).size ≤ 1000000000) := Lib.hid (by rw [HS1.out]; simp only [List.length_append, List.length_singleton]; omega)
  have HD0 : Hid (0 ≤ s1.col) := Lib.hid (by rw [HS1.out]; show 0 ≤ s.col + 1; omega)
  have HD1 : Hid (s1.col ≤ 1000000000) := Lib.hid (by rw [HS1.out]; show s.col + 1 ≤ _; omega)
  have hcc : (decide (s.col < t.col) = false) ∨ (decide (s.col < t.col) = true ∧ decide (t.col ≤ 1000) = false) := by simp; omega
  have hll : decide (s.line < t.line) = false := by simp; omega
  rw [HT.out]
  clear hc hx hl
  rcases hcc with hc | ⟨hc, hc'⟩
  all_goals
    go_enter Tryz.func28, Tryz.ntmps28
    go_wp2
    go_region
    all_goals
      go_wp2
      go_region
      all_goals
        go_wp2_with (go_loud (first | (go_at_call 76; ((with_reducible refine (wtext_p (s := s) hW1 ⟨#[32]⟩ HLR.out hZ1 HC0.out HC1.out).mono ?_); rintro r wt ⟨rfl, hWt0, hOt, hFt⟩; have hWt : WB wt b B s1 := (by rw [HS1.out]; exact hWt0); have HGt := TC.fine HG1.out hFt hne; obtain ⟨p0, p1, p2, p3, p4, p5, p6⟩ := TC.of_block HGt; have c2 := BB.r2 hWt; have c3 := BB.r3 hWt; have c4 := BB.r4 hWt; have z4 := BB.fz hWt 4; have hQt : Q W wt := hQ1.only hOt (fun i hi => hi.elim (fun h => by rw [h]; exact HbW.out) (fun h => Nat.le_trans HBW.out h)); have hZt := Nat.le_trans hZ1 hOt.size)) | (go_at_call 77; refine (textOf_p t _ _ (hQt) hn0 hn1 hz1 hz2).mono ?_; rintro r wa ⟨rfl, hOa⟩; have hWa : WB wa b B (s1) := BB.keep (hWt) hOa; have hZa := Nat.le_trans (hZt) hOa.size) | (go_at_call 76; ((with_reducible refine (wtext_p (s := s1) hWa (txB t) HLN.out hZa HD0.out HD1.out).mono ?_); rintro r wb ⟨rfl, hWb, hOb, hFb⟩; have c2 := BB.r2 hWb; have c3 := BB.r3 hWb; have c4 := BB.r4 hWb; have z4 := BB.fz hWb 4))))
        go_end0
        exact ⟨rfl, BB.set4 hWb _, Only.setCell (k := 4) (((hA2.lift.trans hOt).trans hOa.lift).trans hOb) (.inl rfl) _, Only.setCell (k := 4) (Only.fine2 (fine_of hA2 hFt) (fine_of hOa hFb)) (.inl rfl) _⟩
end
end Go.Proofs.YtakojceggpljoaaGreatDoor
