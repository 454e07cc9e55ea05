/-
  WALKS. Render's writer: a token after line feeds.
-/
import Derived.Test.YtakojceggpljoaaGreatDoorWr4
namespace Go.Proofs.YtakojceggpljoaaGreatDoor
open Go.RowKit Go.Maps
theorem Repeat_v (c : UInt8) (i : Int) (N : Nat) (w : World) (hN : i.toNat = N) (h0 : 0 ≤ i) (h1 : i ≤ 1000000) :
    Calls Tryz.prog 75 #[.string ⟨#[c]⟩, .int .i64 (IntKind.i64.wrap i)] w fun e w' => e = .returned (.string ⟨(rp c N).toArray⟩) ∧ Only (fun _ => False) w w' := hN ▸ Repeat_w c i w h0 h1
section
variable {W w : World} {b B : Nat} {s : WS}
set_option maxRecDepth 100000 in
set_option maxHeartbeats 4000000 in
theorem tok_fe_no (hq : Q W w) (h : WB w b B s) (t : Tok) (hn0 : -9223372036854775808 ≤ t.n) (hn1 : t.n ≤ 9223372036854775807) (hz1 : t.qual.size ≤ 1000000) (hz2 : t.text.size ≤ 1000000) (hx : (txB t).size ≤ 10000000) (hlen : s.out.length ≤ 100000000) (hBw : B ≤ w.heap.size) (hbB : b < B) (hc0 : 1 ≤ s.col) (hc1 : s.col ≤ 100000000) (hl0 : 1 ≤ s.line) (hl1 : s.line ≤ 1000000000) (hbW : W.heap.size ≤ b) (ht0 : t.line ≤ 9223372036854775807) (hl : s.line < t.line) (hc : ¬ (1 < t.col ∧ t.col ≤ 1000)) :
    Calls Tryz.prog 28 #[.pointer (some ⟨b, 0, none⟩), tokV t] w (WPost w b B (tokS s t)) := by
  have hbw : b < w.heap.size := by omega
  have c2 := BB.r2 h
  have c3 := BB.r3 h
  have c4 := BB.r4 h
  have z2 := BB.fz h 2
  have z3 := BB.fz h 3
  have z4 := BB.fz h 4
  have hA := tokA_only w t
  have hW0 : WB (tokA w t) b B s := BB.keep h hA
  have hQ0 : Q W (tokA w t) := hq.below ((Below.refl _ _).alloc (Nat.le_refl _) _)
  have HG0 := Lib.hid (new_block w (.cells #[.int .i64 t.op, .string t.qual, .string t.text, .int .i64 t.n, .bool t.auto, .int .i64 t.line, .int .i64 t.col] 38))
  have hZ0 : B ≤ (tokA w t).heap.size := Nat.le_trans hBw hA.size
  have HX := Lib.hid hx
  have hA2 : Only (fun _ => False) w (tokA w t).drew.drew.drew := hA.trans (Only.refl _ _).drew.drew.drew
  have hW1 : WB (tokA w t).drew.drew.drew b B s := hW0
  have hZ1 : B ≤ (tokA w t).drew.drew.drew.heap.size := hZ0
  have hQ1 : Q W (tokA w t).drew.drew.drew := hQ0.below (Below.refl _ _).drew.drew.drew
  have HG1 : Hid ((tokA w t).drew.drew.drew.heap[w.heap.size]? = some (.cells #[.int .i64 t.op, .string t.qual, .string t.text, .int .i64 t.n, .bool t.auto, .int .i64 t.line, .int .i64 t.col] 38 (0, 0))) := Lib.hid HG0.out
  have HC0 : Hid (0 ≤ s.col) := Lib.hid (by omega)
  have HC1 : Hid (s.col ≤ 1000000000) := Lib.hid (by omega)
  have HBW : Hid (W.heap.size ≤ B) := Lib.hid (by omega)
  have HbW := Lib.hid hbW
  have hne : w.heap.size ≠ b := by omega
  have HM0 : Hid (0 ≤ min (t.line - s.line) 200) := Lib.hid (by omega)
  have HM1 : Hid (min (t.line - s.line) 200 ≤ 200) := Lib.hid (by omega)
  have HM2 : Hid (min (t.line - s.line) 200 ≤ 1000000) := Lib.hid (by omega)
  have HLI : Hid (Lies 59 [Value.int .i64 s.line, .int .i64 s.col, .bool s.first].length) := Lib.hid lies3
  have HLF : Hid (s.out.length + (⟨(rp 10 (min (t.line - s.line) 200).toNat).toArray⟩ : ByteArray).size ≤ 1000000000) := Lib.hid (by rw [rpB_size]; omega)
  obtain ⟨s0, HS0⟩ : ∃ s0 : WS, Hid (s0 = ⟨s.out ++ rp 10 (min (t.line - s.line) 200).toNat, s.line + min (t.line - s.line) 200, 1, true⟩) := ⟨_, Lib.hid rfl⟩
  have HL0 : Hid (s0.out.length ≤ 100001000) := Lib.hid (by rw [HS0.out]; simp only [List.length_append, rp_len]; omega)
  have HD0 : Hid (0 ≤ s0.col) := Lib.hid (by rw [HS0.out]; show (0:Int) ≤ 1; decide)
  have HD1 : Hid (s0.col ≤ 1000000000) := Lib.hid (by rw [HS0.out]; show (1:Int) ≤ 1000000000; decide)
  have HLN : Hid (s0.out.length + (txB t).size ≤ 1000000000) := Lib.hid (by have := HL0.out; omega)
  have HT : Hid (tokS s t = ⟨s0.out ++ (txB t).data.toList, s0.line, s0.col + (txB t).size, false⟩) := Lib.hid (by unfold tokS feedS; rw [if_pos hl]; unfold colS; rw [if_neg hc, if_pos rfl, HS0.out])
  have hcc : (decide (1 < t.col) = false) ∨ (decide (1 < t.col) = true ∧ decide (t.col ≤ 1000) = false) := by simp; omega
  have hll : decide (s.line < t.line) = true := by simp; omega
  have hmn0 : 0 ≤ min (t.line - s.line) 200 := by omega
  have hmn1 : min (t.line - s.line) 200 ≤ 200 := by omega
  rw [HT.out]
  clear hx hl hc
  rcases hcc with hc | ⟨hc, hc'⟩
  all_goals
    go_enter Tryz.func28, Tryz.ntmps28
    go_wp2
    go_region
    all_goals
      go_wp2
      go_region
      all_goals
        go_wp2
        go_region_with (go_loud (first | (go_at_call 75; ((with_reducible refine (Repeat_i 10 (min (t.line - s.line) 200) _ HM0.out HM2.out).mono ?_); rintro r wr ⟨rfl, hOr⟩; have hWr : BB wr b 59 [.int .i64 s.line, .int .i64 s.col, .bool s.first] B s.out := BB.keep hW1 hOr; have hZr := Nat.le_trans hZ1 hOr.size)) | (go_at_call 74; ((with_reducible refine (WriteString_p hWr HLI.out ⟨(rp 10 (min (t.line - s.line) 200).toNat).toArray⟩ HLF.out hZr).mono ?_); rintro r wt ⟨rfl, hBt, hOt, hFt⟩))))
        all_goals
          have c2 := BA.r2 hBt
          have c3 := BA.r3 hBt
          have c4 := BA.r4 hBt
          have z2 := BA.fz hBt 2
          have z3 := BA.fz hBt 3
          have z4 := BA.fz hBt 4
          have HGt := TC.fine (TC.keepB HG1.out hOr) hFt hne
          obtain ⟨p0, p1, p2, p3, p4, p5, p6⟩ := TC.of_block HGt
          have hWz : WB (((wt.setCell ⟨b, 2, none⟩ (.int .i64 (s.line + min (t.line - s.line) 200))).setCell ⟨b, 3, none⟩ (.int .i64 1)).setCell ⟨b, 4, none⟩ (.bool true)) b B s0 := by (rw [HS0.out]; exact BB.set4 (BB.set3 (BB.set2 (.inr hBt) _) _) _)
          have hOz : Only (fun k => k = b ∨ B ≤ k) w (((wt.setCell ⟨b, 2, none⟩ (.int .i64 (s.line + min (t.line - s.line) 200))).setCell ⟨b, 3, none⟩ (.int .i64 1)).setCell ⟨b, 4, none⟩ (.bool true)) := Only.setCell (k := 4) (Only.setCell (k := 3) (Only.setCell (k := 2) ((hA2.trans hOr).lift.trans hOt) (.inl rfl) _) (.inl rfl) _) (.inl rfl) _
          have hFz : Only (Fine w b) w (((wt.setCell ⟨b, 2, none⟩ (.int .i64 (s.line + min (t.line - s.line) 200))).setCell ⟨b, 3, none⟩ (.int .i64 1)).setCell ⟨b, 4, none⟩ (.bool true)) := Only.setCell (k := 4) (Only.setCell (k := 3) (Only.setCell (k := 2) (fine_of (hA2.trans hOr) hFt) (.inl rfl) _) (.inl rfl) _) (.inl rfl) _
          have hQz : Q W (((wt.setCell ⟨b, 2, none⟩ (.int .i64 (s.line + min (t.line - s.line) 200))).setCell ⟨b, 3, none⟩ (.int .i64 1)).setCell ⟨b, 4, none⟩ (.bool true)) := hq.only hOz (fun i hi => hi.elim (fun h => by rw [h]; exact HbW.out) (fun h => Nat.le_trans HBW.out h))
          have hZz : B ≤ (((wt.setCell ⟨b, 2, none⟩ (.int .i64 (s.line + min (t.line - s.line) 200))).setCell ⟨b, 3, none⟩ (.int .i64 1)).setCell ⟨b, 4, none⟩ (.bool true)).heap.size := Nat.le_trans hBw hOz.size
          go_wp2
          go_region
          all_goals
            go_wp2_with (go_loud (first | (go_at_call 76; ((with_reducible refine (wtext_p (s := s0) hWa (txB t) HLN.out hZa HD0.out HD1.out).mono ?_); rintro r wb ⟨rfl, hWb, hOb, hFb⟩; have c2 := BB.r2 hWb; have c3 := BB.r3 hWb; have c4 := BB.r4 hWb; have z4 := BB.fz hWb 4)) | (go_at_call 77; refine (textOf_p t _ _ ((hQz.below (Below.refl _ _).drew)) hn0 hn1 hz1 hz2).mono ?_; rintro r wa ⟨rfl, hOa⟩; have hWa : WB wa b B (s0) := BB.keep ((show WB (((wt.setCell ⟨b, 2, none⟩ (.int .i64 (s.line + min (t.line - s.line) 200))).setCell ⟨b, 3, none⟩ (.int .i64 1)).setCell ⟨b, 4, none⟩ (.bool true)).drew b B s0 from hWz)) hOa; have hZa := Nat.le_trans ((show B ≤ (((wt.setCell ⟨b, 2, none⟩ (.int .i64 (s.line + min (t.line - s.line) 200))).setCell ⟨b, 3, none⟩ (.int .i64 1)).setCell ⟨b, 4, none⟩ (.bool true)).drew.heap.size from hZz)) hOa.size)))
            go_end0
            exact ⟨rfl, BB.set4 hWb _, Only.setCell (k := 4) ((hOz.trans (Only.lift (Only.trans (Only.refl _ _).drew hOa))).trans hOb) (.inl rfl) _, Only.setCell (k := 4) (Only.fine2 hFz (fine_of (Only.trans (Only.refl _ _).drew hOa) hFb)) (.inl rfl) _⟩
set_option maxRecDepth 100000 in
set_option maxHeartbeats 4000000 in
theorem tok_fe_sp (hq : Q W w) (h : WB w b B s) (t : Tok) (hn0 : -9223372036854775808 ≤ t.n) (hn1 : t.n ≤ 9223372036854775807) (hz1 : t.qual.size ≤ 1000000) (hz2 : t.text.size ≤ 1000000) (hx : (txB t).size ≤ 10000000) (hlen : s.out.length ≤ 100000000) (hBw : B ≤ w.heap.size) (hbB : b < B) (hc0 : 1 ≤ s.col) (hc1 : s.col ≤ 100000000) (hl0 : 1 ≤ s.line) (hl1 : s.line ≤ 1000000000) (hbW : W.heap.size ≤ b) (ht0 : t.line ≤ 9223372036854775807) (hl : s.line < t.line) (hc : 1 < t.col) (hc' : t.col ≤ 1000) :
    Calls Tryz.prog 28 #[.pointer (some ⟨b, 0, none⟩), tokV t] w (WPost w b B (tokS s t)) := by
  have hbw : b < w.heap.size := by omega
  have c2 := BB.r2 h
  have c3 := BB.r3 h
  have c4 := BB.r4 h
  have z2 := BB.fz h 2
  have z3 := BB.fz h 3
  have z4 := BB.fz h 4
  have hA := tokA_only w t
  have hW0 : WB (tokA w t) b B s := BB.keep h hA
  have hQ0 : Q W (tokA w t) := hq.below ((Below.refl _ _).alloc (Nat.le_refl _) _)
  have HG0 := Lib.hid (new_block w (.cells #[.int .i64 t.op, .string t.qual, .string t.text, .int .i64 t.n, .bool t.auto, .int .i64 t.line, .int .i64 t.col] 38))
  have hZ0 : B ≤ (tokA w t).heap.size := Nat.le_trans hBw hA.size
  have HX := Lib.hid hx
  have hA2 : Only (fun _ => False) w (tokA w t).drew.drew.drew := hA.trans (Only.refl _ _).drew.drew.drew
  have hW1 : WB (tokA w t).drew.drew.drew b B s := hW0
  have hZ1 : B ≤ (tokA w t).drew.drew.drew.heap.size := hZ0
  have hQ1 : Q W (tokA w t).drew.drew.drew := hQ0.below (Below.refl _ _).drew.drew.drew
  have HG1 : Hid ((tokA w t).drew.drew.drew.heap[w.heap.size]? = some (.cells #[.int .i64 t.op, .string t.qual, .string t.text, .int .i64 t.n, .bool t.auto, .int .i64 t.line, .int .i64 t.col] 38 (0, 0))) := Lib.hid HG0.out
  have HC0 : Hid (0 ≤ s.col) := Lib.hid (by omega)
  have HC1 : Hid (s.col ≤ 1000000000) := Lib.hid (by omega)
  have HBW : Hid (W.heap.size ≤ B) := Lib.hid (by omega)
  have HbW := Lib.hid hbW
  have hne : w.heap.size ≠ b := by omega
  have HM0 : Hid (0 ≤ min (t.line - s.line) 200) := Lib.hid (by omega)
  have HM1 : Hid (min (t.line - s.line) 200 ≤ 200) := Lib.hid (by omega)
  have HM2 : Hid (min (t.line - s.line) 200 ≤ 1000000) := Lib.hid (by omega)
  have HLI : Hid (Lies 59 [Value.int .i64 s.line, .int .i64 s.col, .bool s.first].length) := Lib.hid lies3
  have HLF : Hid (s.out.length + (⟨(rp 10 (min (t.line - s.line) 200).toNat).toArray⟩ : ByteArray).size ≤ 1000000000) := Lib.hid (by rw [rpB_size]; omega)
  obtain ⟨s0, HS0⟩ : ∃ s0 : WS, Hid (s0 = ⟨s.out ++ rp 10 (min (t.line - s.line) 200).toNat, s.line + min (t.line - s.line) 200, 1, true⟩) := ⟨_, Lib.hid rfl⟩
  have HL0 : Hid (s0.out.length ≤ 100001000) := Lib.hid (by rw [HS0.out]; simp only [List.length_append, rp_len]; omega)
  have HD0 : Hid (0 ≤ s0.col) := Lib.hid (by rw [HS0.out]; show (0:Int) ≤ 1; decide)
  have HD1 : Hid (s0.col ≤ 1000000000) := Lib.hid (by rw [HS0.out]; show (1:Int) ≤ 1000000000; decide)
  obtain ⟨N, HN⟩ : ∃ N : Nat, Hid ((t.col - 1).toNat = N) := ⟨_, Lib.hid rfl⟩
  have HNI : Hid (((N : Nat) : Int) = t.col - 1) := Lib.hid (by rw [← HN.out]; omega)
  obtain ⟨s1, HS1⟩ : ∃ s1 : WS, Hid (s1 = ⟨s0.out ++ rp 32 N, s0.line, s0.col + (({ data := (rp 32 N).toArray } : ByteArray).size : Nat), s0.first⟩) := ⟨_, Lib.hid rfl⟩
  have HS2 : Hid (s1 = ⟨s0.out ++ rp 32 N, s0.line, 1 + (t.col - 1), s0.first⟩) := Lib.hid (by rw [HS1.out, rpB_size, HNI.out, HS0.out])
  have HT : Hid (tokS s t = ⟨s1.out ++ (txB t).data.toList, s1.line, s1.col + (txB t).size, false⟩) := Lib.hid (by unfold tokS feedS; rw [if_pos hl]; unfold colS; rw [if_pos ⟨hc, hc'⟩, HS2.out, HS0.out, ← HN.out])
  have HR0 : Hid (0 ≤ t.col - 1) := Lib.hid (by omega)
  have HR1 : Hid (t.col - 1 ≤ 1000000) := Lib.hid (by omega)
  have HLR : Hid (s0.out.length + (⟨(rp 32 N).toArray⟩ : ByteArray).size ≤ 1000000000) := Lib.hid (by rw [rpB_size]; have := HL0.out; have := HNI.out; omega)
  have HLN : Hid (s1.out.length + (txB t).size ≤ 1000000000) := Lib.hid (by rw [HS2.out]; simp only [List.length_append, rp_len]; have := HL0.out; have := HNI.out; omega)
  have HE0 : Hid (0 ≤ s1.col) := Lib.hid (by rw [HS2.out]; show 0 ≤ 1 + (t.col - 1); omega)
  have HE1 : Hid (s1.col ≤ 1000000000) := Lib.hid (by rw [HS2.out]; show 1 + (t.col - 1) ≤ _; omega)
  have hx0 : decide (1 < t.col) = true := by simp; omega
  have hx1 : decide (t.col ≤ 1000) = true := by simp; omega
  have hll : decide (s.line < t.line) = true := by simp; omega
  have hmn0 : 0 ≤ min (t.line - s.line) 200 := by omega
  have hmn1 : min (t.line - s.line) 200 ≤ 200 := by omega
  rw [HT.out]
  clear hx hl hc hc'
  go_enter Tryz.func28, Tryz.ntmps28
  go_wp2
  go_region
  all_goals
    go_wp2
    go_region
    all_goals
      go_wp2
      go_region_with (go_loud (first | (go_at_call 75; ((with_reducible refine (Repeat_i 10 (min (t.line - s.line) 200) _ HM0.out HM2.out).mono ?_); rintro r wr ⟨rfl, hOr⟩; have hWr : BB wr b 59 [.int .i64 s.line, .int .i64 s.col, .bool s.first] B s.out := BB.keep hW1 hOr; have hZr := Nat.le_trans hZ1 hOr.size)) | (go_at_call 74; ((with_reducible refine (WriteString_p hWr HLI.out ⟨(rp 10 (min (t.line - s.line) 200).toNat).toArray⟩ HLF.out hZr).mono ?_); rintro r wt ⟨rfl, hBt, hOt, hFt⟩))))
      all_goals
        have c2 := BA.r2 hBt
        have c3 := BA.r3 hBt
        have c4 := BA.r4 hBt
        have z2 := BA.fz hBt 2
        have z3 := BA.fz hBt 3
        have z4 := BA.fz hBt 4
        have HGt := TC.fine (TC.keepB HG1.out hOr) hFt hne
        obtain ⟨p0, p1, p2, p3, p4, p5, p6⟩ := TC.of_block HGt
        have hWz : WB (((wt.setCell ⟨b, 2, none⟩ (.int .i64 (s.line + min (t.line - s.line) 200))).setCell ⟨b, 3, none⟩ (.int .i64 1)).setCell ⟨b, 4, none⟩ (.bool true)) b B s0 := by (rw [HS0.out]; exact BB.set4 (BB.set3 (BB.set2 (.inr hBt) _) _) _)
        have hOz : Only (fun k => k = b ∨ B ≤ k) w (((wt.setCell ⟨b, 2, none⟩ (.int .i64 (s.line + min (t.line - s.line) 200))).setCell ⟨b, 3, none⟩ (.int .i64 1)).setCell ⟨b, 4, none⟩ (.bool true)) := Only.setCell (k := 4) (Only.setCell (k := 3) (Only.setCell (k := 2) ((hA2.trans hOr).lift.trans hOt) (.inl rfl) _) (.inl rfl) _) (.inl rfl) _
        have hFz : Only (Fine w b) w (((wt.setCell ⟨b, 2, none⟩ (.int .i64 (s.line + min (t.line - s.line) 200))).setCell ⟨b, 3, none⟩ (.int .i64 1)).setCell ⟨b, 4, none⟩ (.bool true)) := Only.setCell (k := 4) (Only.setCell (k := 3) (Only.setCell (k := 2) (fine_of (hA2.trans hOr) hFt) (.inl rfl) _) (.inl rfl) _) (.inl rfl) _
        have hQz : Q W (((wt.setCell ⟨b, 2, none⟩ (.int .i64 (s.line + min (t.line - s.line) 200))).setCell ⟨b, 3, none⟩ (.int .i64 1)).setCell ⟨b, 4, none⟩ (.bool true)) := hq.only hOz (fun i hi => hi.elim (fun h => by rw [h]; exact HbW.out) (fun h => Nat.le_trans HBW.out h))
        have hFy : Only (Fine (tokA w t) b) (tokA w t) (((wt.setCell ⟨b, 2, none⟩ (.int .i64 (s.line + min (t.line - s.line) 200))).setCell ⟨b, 3, none⟩ (.int .i64 1)).setCell ⟨b, 4, none⟩ (.bool true)) := Only.setCell (k := 4) (Only.setCell (k := 3) (Only.setCell (k := 2) (fine_of (Only.trans (Only.refl _ _).drew.drew.drew hOr) hFt) (.inl rfl) _) (.inl rfl) _) (.inl rfl) _
        have hZz : B ≤ (((wt.setCell ⟨b, 2, none⟩ (.int .i64 (s.line + min (t.line - s.line) 200))).setCell ⟨b, 3, none⟩ (.int .i64 1)).setCell ⟨b, 4, none⟩ (.bool true)).heap.size := Nat.le_trans hBw hOz.size
        go_wp2
        go_region
        all_goals
          go_wp2
          go_region_with (go_loud (first | (go_at_call 76; ((with_reducible refine (wtext_p (s := s0) hWq ⟨(rp 32 N).toArray⟩ HLR.out hZq HD0.out HD1.out).mono ?_); rintro r wv ⟨rfl, hWv0, hOv, hFv⟩; have hWv : WB wv b B s1 := by (rw [HS1.out]; exact hWv0))) | (go_at_call 75; ((with_reducible refine (Repeat_v 32 (t.col - 1) N _ HN.out HR0.out HR1.out).mono ?_); rintro r wq ⟨rfl, hOq⟩; have hWq : WB wq b B s0 := BB.keep (show WB (((wt.setCell ⟨b, 2, none⟩ (.int .i64 (s.line + min (t.line - s.line) 200))).setCell ⟨b, 3, none⟩ (.int .i64 1)).setCell ⟨b, 4, none⟩ (.bool true)).drew.drew b B s0 from hWz) hOq; have hZq := Nat.le_trans (show B ≤ (((wt.setCell ⟨b, 2, none⟩ (.int .i64 (s.line + min (t.line - s.line) 200))).setCell ⟨b, 3, none⟩ (.int .i64 1)).setCell ⟨b, 4, none⟩ (.bool true)).drew.drew.heap.size from hZz) hOq.size))))
          all_goals
            have HGv := TC.fine (TC.keepB (TC.fine HG0.out (show Only (Fine (tokA w t) b) (tokA w t) (((wt.setCell ⟨b, 2, none⟩ (.int .i64 (s.line + min (t.line - s.line) 200))).setCell ⟨b, 3, none⟩ (.int .i64 1)).setCell ⟨b, 4, none⟩ (.bool true)).drew.drew from hFy.drew.drew) hne) hOq) hFv hne
            obtain ⟨p0, p1, p2, p3, p4, p5, p6⟩ := TC.of_block HGv
            have c2 := BB.r2 hWv
            have c3 := BB.r3 hWv
            have c4 := BB.r4 hWv
            have z4 := BB.fz hWv 4
            have hQv : Q W wv := ((hQz.below (Below.refl _ _).drew.drew).only hOq (fun _ h => h.elim)).only hOv (fun i hi => hi.elim (fun h => by rw [h]; exact HbW.out) (fun h => Nat.le_trans HBW.out h))
            have hZv := Nat.le_trans hZq hOv.size
            go_wp2_with (go_loud (first | (go_at_call 77; refine (textOf_p t _ _ (hQv) hn0 hn1 hz1 hz2).mono ?_; rintro r wa ⟨rfl, hOa⟩; have hWa : WB wa b B (s1) := BB.keep (hWv) hOa; have hZa := Nat.le_trans (hZv) hOa.size) | (go_at_call 76; ((with_reducible refine (wtext_p (s := s1) hWa (txB t) HLN.out hZa HE0.out HE1.out).mono ?_); rintro r wb ⟨rfl, hWb, hOb, hFb⟩; have c2 := BB.r2 hWb; have c3 := BB.r3 hWb; have c4 := BB.r4 hWb; have z4 := BB.fz hWb 4))))
            go_end0
            exact ⟨rfl, BB.set4 hWb _, Only.setCell (k := 4) ((((hOz.trans (Only.lift (Only.trans (Only.refl _ _).drew.drew hOq))).trans hOv).trans hOa.lift).trans hOb) (.inl rfl) _, Only.setCell (k := 4) (Only.fine2 (Only.fine2 hFz (fine_of (Only.trans (Only.refl _ _).drew.drew hOq) hFv)) (fine_of hOa hFb)) (.inl rfl) _⟩

end
end Go.Proofs.YtakojceggpljoaaGreatDoor
