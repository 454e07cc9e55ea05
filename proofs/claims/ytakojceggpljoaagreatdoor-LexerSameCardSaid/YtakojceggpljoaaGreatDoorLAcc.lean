/-
  WALKS. The scanner's accept: a token is appended.
-/
import Derived.Test.YtakojceggpljoaaGreatDoorLCom
namespace Go.Proofs.YtakojceggpljoaaGreatDoor
open Go.RowKit Go.Maps
def tokCells (t : Tok) : List Value := [.int .i64 t.op, .string t.qual, .string t.text, .int .i64 t.n, .bool t.auto, .int .i64 t.line, .int .i64 t.col]
/-- Tokens in a row of the call's own. -/
def TR (w : World) (B : Nat) (v : Value) (ts : List Tok) : Prop := w.ownsRow B 38 7 v ts.length (ts.flatMap tokCells)
theorem infoTok : (Tryz.prog.info? 38).map (fun i => (i.zero, i.size, i.bytes)) = some (some (.agg #[.int .i64 0, .string ⟨#[]⟩, .string ⟨#[]⟩, .int .i64 0, .bool false, .int .i64 0, .int .i64 0]), 7, 72) := by kernel_rfl
theorem TR.only {w w' : World} {B : Nat} {v : Value} {ts : List Tok} {K : Nat → Prop} (h : TR w B v ts) (ho : Only K w w') (hk : ∀ i, K i → i < B) : TR w' B v ts :=
  rowKeep h (fun g hg => ho.block g ((World.ownsRow.lt h g hg).2) (fun hc => by have := (World.ownsRow.lt h g hg).1; have := hk g hc; omega))
theorem TR.snoc {w : World} {B : Nat} {v : Value} {ts : List Tok} {t : Tok} (h : w.ownsRow B 38 7 v (ts.length + 1) (ts.flatMap tokCells ++ tokCells t)) : TR w B v (ts ++ [t]) := by
  unfold TR
  rw [List.length_append, List.flatMap_append]
  simpa using h
theorem Scn.setTok {w : World} {b : Nat} {s : ByteArray} {B H : At} {tk : Value} {F : Flt} (h : Scn w b s B H tk F) (v : Value) : Scn (w.setCell ⟨b, 7, none⟩ v) b s B H v F := by
  unfold Scn at h ⊢
  simp [World.setCell, Array.getElem?_modify, h]
theorem one_tok (t : Tok) : ∀ u ∈ tokCells t, u.oneCell' = true := by
  intro u hu
  simp [tokCells] at hu
  rcases hu with rfl | rfl | rfl | rfl | rfl | rfl | rfl <;> rfl
section
variable {W w : World} {b : Nat} {s : ByteArray} {i0 i : Nat} {tk : Value} {F : Flt}
set_option maxRecDepth 100000 in
set_option maxHeartbeats 2000000 in
theorem accept_full (hS : Scn w b s (pos s i0) (pos s i) tk F) (t : Tk) {B : Nat} {ts : List Tok} (hT : TR w B tk ts) (hn : ts.length = 16384) :
    Calls Tryz.prog 55 #[.pointer (some ⟨b, 0, none⟩), tkC t] w fun r w' => r = .returned (.bool false) ∧ Bad b s i0 tk (flt s 3 nil8 i0) w' ∧ Only (· = b) w w' := by
  obtain ⟨oa, ca, rfl⟩ := rowForm hT
  rw [hn] at hS ⊢
  have hS0 := hS.alloc (.cells #[.int .i64 t.op, .string t.qual, .string t.text, .int .i64 t.n, .bool false, .int .i64 0, .int .i64 0] 38)
  have c7 := hS0.toks
  go_enter Tryz.func55, Tryz.ntmps55
  go_wp2_with (first | (go_at_call 89; refine (fail_p hS0 3 _).mono ?_; rintro r w7 ⟨rfl, hB7, hO7⟩))
  go_ret
  exact ⟨rfl, hB7, (Only.of_below ((Below.refl _ _).alloc (Nat.le_refl _) _)).trans hO7⟩
set_option maxRecDepth 100000 in
set_option maxHeartbeats 2000000 in
theorem accept_p (hS : Scn w b s (pos s i0) (pos s i) tk F) (t : Tk) {B : Nat} {ts : List Tok} (hbB : b < B) (hBw : B ≤ w.heap.size) (hi0 : i0 ≤ 65536) (hT : TR w B tk ts) (hn : ts.length < 16384) :
    Calls Tryz.prog 55 #[.pointer (some ⟨b, 0, none⟩), tkC t] w fun r w' => r = .returned (.bool true) ∧ ∃ tk', Scn w' b s (pos s i0) (pos s i) tk' F ∧ TR w' B tk' (ts ++ [t.at' (pos s i0)]) ∧ Only (fun k => k = b ∨ B ≤ k) w w' := by
  obtain ⟨oa, ca, rfl⟩ := rowForm hT
  have hS0 := hS.alloc (.cells #[.int .i64 t.op, .string t.qual, .string t.text, .int .i64 t.n, .bool false, .int .i64 0, .int .i64 0] 38)
  have hSz := hS.lt
  have c2 := hS.bline
  have c3 := hS.bcol
  have c7 := hS.toks
  have z7 := hS.fz 7
  obtain ⟨l, hl⟩ : ∃ l, (pos s i0).line = l := ⟨_, rfl⟩
  obtain ⟨m, hm⟩ : ∃ m, (pos s i0).col = m := ⟨_, rfl⟩
  rw [hl] at c2
  rw [hm] at c3
  have HL := Lib.hid hl
  have HM := Lib.hid hm
  have e1 : (ts.length == 16384) = false := by simp; omega
  have e2 : ((ts.length : Int) == 16384) = false := by simp; omega
  clear hl hm
  obtain ⟨i0', hi, hz0, hz1, hz2⟩ := info_parts infoTok
  go_enter Tryz.func55, Tryz.ntmps55
  go_wp2
  go_region
  all_goals
    go_wp2
    have HOWN : (((w.alloc (.cells #[.int .i64 t.op, .string t.qual, .string t.text, .int .i64 t.n, .bool false, .int .i64 l, .int .i64 m] 38)).alloc (.cells #[.int .i64 t.op, .string t.qual, .string t.text, .int .i64 t.n, .bool false, .int .i64 l, .int .i64 m] 38)).drew.drew).ownsRow B 38 7 (.slice oa ts.length ca) ts.length (ts.flatMap tokCells) := World.ownsRow.alloc (World.ownsRow.alloc hT (.cells #[.int .i64 t.op, .string t.qual, .string t.text, .int .i64 t.n, .bool false, .int .i64 l, .int .i64 m] 38)) (.cells #[.int .i64 t.op, .string t.qual, .string t.text, .int .i64 t.n, .bool false, .int .i64 l, .int .i64 m] 38)
    have hblk : (((w.alloc (.cells #[.int .i64 t.op, .string t.qual, .string t.text, .int .i64 t.n, .bool false, .int .i64 l, .int .i64 m] 38)).alloc (.cells #[.int .i64 t.op, .string t.qual, .string t.text, .int .i64 t.n, .bool false, .int .i64 l, .int .i64 m] 38)).drew.drew).heap[w.heap.size + 1]? = some (.cells #[.int .i64 t.op, .string t.qual, .string t.text, .int .i64 t.n, .bool false, .int .i64 l, .int .i64 m] 38) := by
                                       have := new_block (w.alloc (.cells #[.int .i64 t.op, .string t.qual, .string t.text, .int .i64 t.n, .bool false, .int .i64 l, .int .i64 m] 38)) (.cells #[.int .i64 t.op, .string t.qual, .string t.text, .int .i64 t.n, .bool false, .int .i64 l, .int .i64 m] 38)
                                       have e : (w.alloc (.cells #[.int .i64 t.op, .string t.qual, .string t.text, .int .i64 t.n, .bool false, .int .i64 l, .int .i64 m] 38)).heap.size = w.heap.size + 1 := by show (w.heap.push _).size = _; simp
                                       rw [e] at this; exact this
    have HBASE : B ≤ (((w.alloc (.cells #[.int .i64 t.op, .string t.qual, .string t.text, .int .i64 t.n, .bool false, .int .i64 l, .int .i64 m] 38)).alloc (.cells #[.int .i64 t.op, .string t.qual, .string t.text, .int .i64 t.n, .bool false, .int .i64 l, .int .i64 m] 38)).drew.drew).heap.size := by show B ≤ ((w.heap.push _).push _).size; simp only [Array.size_push]; omega
    have H63 : ts.length + 1 ≤ maxLen := by unfold maxLen; omega
    have HBY : (ts.length + 1) * 72 ≤ 140737488355328 := by omega
    have HNEWS := World.news_of_block hblk
    have HS2 : Scn (((w.alloc (.cells #[.int .i64 t.op, .string t.qual, .string t.text, .int .i64 t.n, .bool false, .int .i64 l, .int .i64 m] 38)).alloc (.cells #[.int .i64 t.op, .string t.qual, .string t.text, .int .i64 t.n, .bool false, .int .i64 l, .int .i64 m] 38)).drew.drew) b s (pos s i0) (pos s i) (.slice oa ts.length ca) F := (hS.alloc (.cells #[.int .i64 t.op, .string t.qual, .string t.text, .int .i64 t.n, .bool false, .int .i64 l, .int .i64 m] 38)).alloc (.cells #[.int .i64 t.op, .string t.qual, .string t.text, .int .i64 t.n, .bool false, .int .i64 l, .int .i64 m] 38)
    have HNB : Value.ownBlock (.slice oa ts.length ca) ≠ some b := fun e => by have := (World.ownsRow.lt hT b e).1; omega
    have HONE := one_tok (t.at' ⟨0, l, m⟩)
    go_region_law ((refine step_append_lies _ rfl (.tmp 29) (.tmp 31) 23 rfl B 38 i0' (.agg #[.int .i64 0, .string ⟨#[]⟩, .string ⟨#[]⟩, .int .i64 0, .bool false, .int .i64 0, .int .i64 0]) 7 72 Tryz.underlying23 hi hz0 hz1 hz2 rfl (by decide) (.slice oa ts.length ca) ts.length (ts.flatMap tokCells) ?e1 HOWN ⟨w.heap.size + 1, 0, none⟩ 1 1 (tokCells (t.at' ⟨0, l, m⟩)) ?e2 rfl HNEWS HONE Nat.one_pos H63 HBY HBASE _ rfl ?_); (case e1 => simp [Act.eval]); (case e2 => simp [Act.eval]); (intro g cg w' hown' hgrow hat hlt'; have HS3 := Scn.grown HS2 hgrow HNB; have f7 := HS3.toks; have g7 := HS3.fz 7))
    all_goals
      have HTR := TR.snoc (t := t.at' (pos s i0)) (by rw [show tokCells (t.at' (pos s i0)) = tokCells (t.at' ⟨0, l, m⟩) from by simp only [tokCells, Tk.at', HL.out, HM.out]]; exact hown')
      have HO3 : Only (fun k => k = b ∨ B ≤ k) w w' := ((Only.of_below (((Below.refl _ w).alloc (Nat.le_refl _) (.cells #[.int .i64 t.op, .string t.qual, .string t.text, .int .i64 t.n, .bool false, .int .i64 l, .int .i64 m] 38)).alloc (by show w.heap.size ≤ (w.heap.push _).size; simp) (.cells #[.int .i64 t.op, .string t.qual, .string t.text, .int .i64 t.n, .bool false, .int .i64 l, .int .i64 m] 38)).drew.drew)).trans (Only.grown hgrow (fun k hk => .inr (World.ownsRow.lt hT k hk).1))
      clear hown' hgrow HOWN hblk HNEWS HS2 HNB HONE HBASE H63 HBY hS0 c2 c3 c7 z7 hT hS
      go_wp2
      go_ret
      exact ⟨rfl, _, HS3.setTok _, HTR.only (Only.setCell (k := 7) (Only.refl (· = b) _) rfl _) (fun k hk => by rw [hk]; exact hbB), Only.setCell (k := 7) HO3 (.inl rfl) _⟩
end
end Go.Proofs.YtakojceggpljoaaGreatDoor
