/-
  WALKS. Render's writer: a token with blanks before it.
-/
import Derived.Test.YtakojceggpljoaaGreatDoorWr2
import Derived.IntWalk
namespace Go.Proofs.YtakojceggpljoaaGreatDoor
open Go.RowKit Go.Maps
theorem Only.fine2 {w w1 w2 : World} {b : Nat} (h : Only (Fine w b) w w1) (h2 : Only (Fine w1 b) w1 w2) : Only (Fine w b) w w2 :=
  ⟨h2.os.trans h.os, h2.tape.trans h.tape, h2.output.trans h.output, Nat.le_trans h.size h2.size, fun i hi hk => (h2.block i (Nat.lt_of_lt_of_le hi h.size) (fun hc => hk (by
    rcases hc with hc | ⟨c, hc⟩
    · exact .inl hc
    · exact .inr ⟨c, by rw [← h.block i hi hk]; exact hc⟩))).trans (h.block i hi hk)⟩
theorem Repeat_i (c : UInt8) (i : Int) (w : World) (h0 : 0 ≤ i) (h1 : i ≤ 1000000) :
    Calls Tryz.prog 75 #[.string ⟨#[c]⟩, .int .i64 i] w fun e w' => e = .returned (.string ⟨(rp c i.toNat).toArray⟩) ∧ Only (fun _ => False) w w' := by
  have h := Repeat_p c i.toNat w (by omega)
  rw [Int.toNat_of_nonneg h0] at h
  exact h
theorem rpB_size (c : UInt8) (n : Nat) : (⟨(rp c n).toArray⟩ : ByteArray).size = n := by show (rp c n).toArray.size = n; rw [List.size_toArray, rp_len]
theorem Repeat_w (c : UInt8) (i : Int) (w : World) (h0 : 0 ≤ i) (h1 : i ≤ 1000000) :
    Calls Tryz.prog 75 #[.string ⟨#[c]⟩, .int .i64 (IntKind.i64.wrap i)] w fun e w' => e = .returned (.string ⟨(rp c i.toNat).toArray⟩) ∧ Only (fun _ => False) w w' := by
  rw [Go.IntWalk.i64_in i (by omega)]; exact Repeat_i c i w h0 h1
section
variable {W w : World} {b B : Nat} {s : WS}
set_option maxRecDepth 100000 in
set_option maxHeartbeats 4000000 in
theorem tok_sp (hq : Q W w) (h : WB w b B s) (t : Tok) (hn0 : -9223372036854775808 ≤ t.n) (hn1 : t.n ≤ 9223372036854775807) (hz1 : t.qual.size ≤ 1000000) (hz2 : t.text.size ≤ 1000000) (hx : (txB t).size ≤ 10000000) (hlen : s.out.length ≤ 100000000) (hBw : B ≤ w.heap.size) (hbB : b < B) (hc0 : 1 ≤ s.col) (hc1 : s.col ≤ 100000000) (hl0 : 1 ≤ s.line) (hl1 : s.line ≤ 1000000000) (hbW : W.heap.size ≤ b) (hl : t.line ≤ s.line) (hc : s.col < t.col) (hc' : t.col ≤ 1000) :
    Calls Tryz.prog 28 #[.pointer (some ⟨b, 0, none⟩), tokV t] w (WPost w b B (tokS s t)) := by
  have hbw : b < w.heap.size := by omega
  have c2 := BB.r2 h
  have c3 := BB.r3 h
  have c4 := BB.r4 h
  have z2 := BB.fz h 2
  have z3 := BB.fz h 3
  have z4 := BB.fz h 4
  have hA := tokA_only w t
  have hW0 : WB (tokA w t) b B s := BB.keep h hA
  have hQ0 : Q W (tokA w t) := hq.below ((Below.refl _ _).alloc (Nat.le_refl _) _)
  have HG0 := Lib.hid (new_block w (.cells #[.int .i64 t.op, .string t.qual, .string t.text, .int .i64 t.n, .bool t.auto, .int .i64 t.line, .int .i64 t.col] 38))
  have hZ0 : B ≤ (tokA w t).heap.size := Nat.le_trans hBw hA.size
  have HX := Lib.hid hx
  have hne : w.heap.size ≠ b := by omega
  have hA2 : Only (fun _ => False) w (tokA w t).drew.drew.drew := hA.trans (Only.refl _ _).drew.drew.drew
  have hW1 : WB (tokA w t).drew.drew.drew b B s := hW0
  have hZ1 : B ≤ (tokA w t).drew.drew.drew.heap.size := hZ0
  have hQ1 : Q W (tokA w t).drew.drew.drew := hQ0.below (Below.refl _ _).drew.drew.drew
  have HG1 : Hid ((tokA w t).drew.drew.drew.heap[w.heap.size]? = some (.cells #[.int .i64 t.op, .string t.qual, .string t.text, .int .i64 t.n, .bool t.auto, .int .i64 t.line, .int .i64 t.col] 38 (0, 0))) := Lib.hid HG0.out
  obtain ⟨s1, HS0⟩ : ∃ s1 : WS, Hid (s1 = ⟨s.out ++ rp 32 (t.col - s.col).toNat, s.line, s.col + (({ data := (rp 32 (t.col - s.col).toNat).toArray } : ByteArray).size : Nat), s.first⟩) := ⟨_, Lib.hid rfl⟩
  have HS1 : Hid (s1 = ⟨s.out ++ rp 32 (t.col - s.col).toNat, s.line, s.col + (t.col - s.col), s.first⟩) := Lib.hid (by rw [HS0.out, rpB_size, Int.toNat_of_nonneg (show 0 ≤ t.col - s.col by omega)])
  have HT : Hid (tokS s t = ⟨s1.out ++ (txB t).data.toList, s1.line, s1.col + (txB t).size, false⟩) := Lib.hid (by unfold tokS feedS colS; rw [if_neg (show ¬ s.line < t.line by omega), if_pos ⟨hc, hc'⟩, HS1.out])
  have HR0 : Hid (0 ≤ t.col - s.col) := Lib.hid (by omega)
  have HR1 : Hid (t.col - s.col ≤ 1000000) := Lib.hid (by omega)
  have HLR : Hid (s.out.length + (⟨(rp 32 (t.col - s.col).toNat).toArray⟩ : ByteArray).size ≤ 1000000000) := Lib.hid (by show s.out.length + (rp 32 (t.col - s.col).toNat).toArray.size ≤ _; rw [List.size_toArray, rp_len]; omega)
  have HLN : Hid (s1.out.length + (txB t).size ≤ 1000000000) := Lib.hid (by rw [HS1.out]; simp only [List.length_append, rp_len]; omega)
  have HC0 : Hid (0 ≤ s.col) := Lib.hid (by omega)
  have HC1 : Hid (s.col ≤ 1000000000) := Lib.hid (by omega)
  have HD0 : Hid (0 ≤ s1.col) := Lib.hid (by rw [HS1.out]; show 0 ≤ s.col + (t.col - s.col); omega)
  have HD1 : Hid (s1.col ≤ 1000000000) := Lib.hid (by rw [HS1.out]; show s.col + (t.col - s.col) ≤ _; omega)
  have HBW : Hid (W.heap.size ≤ B) := Lib.hid (by omega)
  have HbW := Lib.hid hbW
  have hx0 : decide (s.col < t.col) = true := by simp; omega
  have hx1 : decide (t.col ≤ 1000) = true := by simp; omega
  have hll : decide (s.line < t.line) = false := by simp; omega
  rw [HT.out]
  clear hc hx hl hc'
  go_enter Tryz.func28, Tryz.ntmps28
  go_wp2
  go_region
  all_goals
    go_wp2
    go_region
    all_goals
      go_wp2
      go_region_with (go_loud (first | (go_at_call 75; ((with_reducible refine (Repeat_w 32 (t.col - s.col) _ HR0.out HR1.out).mono ?_); rintro r wr ⟨rfl, hOr⟩; have hWr : WB wr b B s := BB.keep hW1 hOr; have hZr := Nat.le_trans hZ1 hOr.size)) | (go_at_call 76; ((with_reducible refine (wtext_p (s := s) hWr ⟨(rp 32 (t.col - s.col).toNat).toArray⟩ HLR.out hZr HC0.out HC1.out).mono ?_); rintro r wt ⟨rfl, hWt0, hOt, hFt⟩; have hWt : WB wt b B s1 := by (rw [HS0.out]; exact hWt0)))))
      all_goals
        have HGt := TC.fine (TC.keepB HG1.out hOr) hFt hne
        obtain ⟨p0, p1, p2, p3, p4, p5, p6⟩ := TC.of_block HGt
        have c2 := BB.r2 hWt
        have c3 := BB.r3 hWt
        have c4 := BB.r4 hWt
        have z4 := BB.fz hWt 4
        have hQt : Q W wt := (hQ1.only hOr (fun _ h => h.elim)).only hOt (fun i hi => hi.elim (fun h => by rw [h]; exact HbW.out) (fun h => Nat.le_trans HBW.out h))
        have hZt := Nat.le_trans hZr hOt.size
        go_wp2_with (go_loud (first | (go_at_call 77; refine (textOf_p t _ _ (hQt) hn0 hn1 hz1 hz2).mono ?_; rintro r wa ⟨rfl, hOa⟩; have hWa : WB wa b B (s1) := BB.keep (hWt) hOa; have hZa := Nat.le_trans (hZt) hOa.size) | (go_at_call 76; ((with_reducible refine (wtext_p (s := s1) hWa (txB t) HLN.out hZa HD0.out HD1.out).mono ?_); rintro r wb ⟨rfl, hWb, hOb, hFb⟩; have c2 := BB.r2 hWb; have c3 := BB.r3 hWb; have c4 := BB.r4 hWb; have z4 := BB.fz hWb 4))))
        go_end0
        exact ⟨rfl, BB.set4 hWb _, Only.setCell (k := 4) ((((hA2.trans hOr).lift.trans hOt).trans hOa.lift).trans hOb) (.inl rfl) _, Only.setCell (k := 4) (Only.fine2 (fine_of (hA2.trans hOr) hFt) (fine_of hOa hFb)) (.inl rfl) _⟩
end
end Go.Proofs.YtakojceggpljoaaGreatDoor
