/-
  WALKS. The stack: push.
-/
import Derived.Test.YthblchafjmgmbaaLyC
namespace Go.Proofs.Ythblchafjmgmbaa
open Go.RowKit Go.Maps
theorem new_at {w : World} {n : Nat} (o : Obj) (h : w.heap.size = n) : (w.alloc o).heap[n]? = some o := by subst h; exact new_block _ _
/-- The inserter's block and a row's. -/
def KE (b : Nat) (v : Value) (i : Nat) : Prop := i = b ∨ v.ownBlock = some i
/-- What a call leaves alone: all but the inserter's block and its rows; its rows lie where they lay, or in new blocks. -/
structure Frm (w : World) (b : Nat) (ve vo : Value) (w' : World) (ve' vo' : Value) : Prop where
  only : Only (fun i => i = b ∨ ve.ownBlock = some i ∨ vo.ownBlock = some i) w w'
  ble : ∀ g, ve'.ownBlock = some g → ve.ownBlock = some g ∨ w.heap.size ≤ g
  blo : ∀ g, vo'.ownBlock = some g → vo.ownBlock = some g ∨ w.heap.size ≤ g
theorem Frm.trans {w w1 w2 : World} {b : Nat} {ve vo ve1 vo1 ve2 vo2 : Value} (h : Frm w b ve vo w1 ve1 vo1) (k : Frm w1 b ve1 vo1 w2 ve2 vo2) : Frm w b ve vo w2 ve2 vo2 := by
  have hz := h.only.size
  refine ⟨h.only.then k.only (fun i hi => ?_), fun g hg => ?_, fun g hg => ?_⟩
  · rcases hi with hi | hi | hi
    · exact .inl (.inl hi)
    · exact (h.ble i hi).elim (fun e => .inl (.inr (.inl e))) .inr
    · exact (h.blo i hi).elim (fun e => .inl (.inr (.inr e))) .inr
  · exact (k.ble g hg).elim (h.ble g) (fun e => .inr (by omega))
  · exact (k.blo g hg).elim (h.blo g) (fun e => .inr (by omega))
theorem Frm.keep {w w' : World} {b : Nat} {ve vo : Value} (h : Only (fun _ => False) w w') : Frm w b ve vo w' ve vo := ⟨h.lift, fun _ hg => .inl hg, fun _ hg => .inl hg⟩
theorem Frm.here {w w' : World} {b : Nat} {ve vo ve' : Value} (h : Only (· = b) w w') (he : ve'.ownBlock = ve.ownBlock) : Frm w b ve vo w' ve' vo := ⟨h.wide (fun _ hi => .inl hi), fun _ hg => .inl (he ▸ hg), fun _ hg => .inl hg⟩
/-- A block that the inserter does not use. -/
structure Pr (w : World) (b : Nat) (ve vo : Value) (g : Nat) : Prop where
  lt : g < w.heap.size
  nb : ¬ g = b
  ne : ve.ownBlock ≠ some g
  no : vo.ownBlock ≠ some g
theorem Pr.frm {w w' : World} {b : Nat} {ve vo ve' vo' : Value} {g : Nat} (h : Pr w b ve vo g) (f : Frm w b ve vo w' ve' vo') : Pr w' b ve' vo' g ∧ w'.heap[g]? = w.heap[g]? :=
  ⟨⟨Nat.lt_of_lt_of_le h.lt f.only.size, h.nb, fun e => (f.ble g e).elim h.ne (fun hl => by have := h.lt; omega), fun e => (f.blo g e).elim h.no (fun hl => by have := h.lt; omega)⟩,
   f.only.block g h.lt (fun hc => hc.elim h.nb (fun hc => hc.elim h.ne h.no))⟩
/-- An element's variable at g. -/
def EB (w : World) (g : Nat) (e : El) : Prop := w.heap[g]? = some (.cells (elA e) 59 (0, 0))
section
variable {w w' : World} {g : Nat} {e : El}
theorem EB.only {K : Nat → Prop} (h : EB w g e) (ho : Only K w w') (hk : ¬ K g) : EB w' g e := (ho.block g (lt_of_block h) hk).trans h
theorem EB.same (h : EB w g e) (ho : Only (fun _ => False) w w') : EB w' g e := h.only ho (fun hc => hc)
theorem EB.c0 (h : EB w g e) : w.cell? ⟨g, 0, none⟩ = some (.int .i64 e.kind) := by have h' := h; unfold EB at h'; simp [World.cell?, h']
theorem EB.c1 (h : EB w g e) : w.cell? ⟨g, 1, none⟩ = some (.int .i64 e.col) := by have h' := h; unfold EB at h'; simp [World.cell?, h']
theorem EB.c2 (h : EB w g e) : w.cell? ⟨g, 2, none⟩ = some (.string e.word) := by have h' := h; unfold EB at h'; simp [World.cell?, h']
theorem EB.c3 (h : EB w g e) : w.cell? ⟨g, 3, none⟩ = some (.bool e.marked) := by have h' := h; unfold EB at h'; simp [World.cell?, h']
theorem EB.c4 (h : EB w g e) : w.cell? ⟨g, 4, none⟩ = some (.int .i64 e.blk) := by have h' := h; unfold EB at h'; simp [World.cell?, h']
theorem EB.c5 (h : EB w g e) : w.cell? ⟨g, 5, none⟩ = some (.int .i64 e.ctx) := by have h' := h; unfold EB at h'; simp [World.cell?, h']
theorem EB.fz (h : EB w g e) (k : Nat) : w.frozen? ⟨g, k, none⟩ = false := by have h' := h; unfold EB at h'; simp [World.frozen?, h']
end
/-- The rest of a walk from a world of which only what is said is known. -/
theorem gen_world {P : Program} {c : Code} {Q : Exit → Act → World → Prop} {a : Act} {W : World} (Φ : World → Prop) (h : Φ W) (k : ∀ wx, Φ wx → Code.wp P c Q a wx) : Code.wp P c Q a W := k W h
section
variable {w : World} {b : Nat} {ve vo : Value} {s : St}
theorem Frm.low (h : IS w b ve vo s) {w' : World} {ve' vo' : Value} (f : Frm w b ve vo w' ve' vo') : Only (b ≤ ·) w w' :=
  f.only.wide (fun i hi => by
    rcases hi with e | e | e
    · omega
    · have := (World.ownsRow.lt h.els i e).1; omega
    · have := (World.ownsRow.lt h.out i e).1; omega)
/-- A block made behind the inserter's. -/
theorem IS.pr (h : IS w b ve vo s) {w' : World} {g : Nat} (hg : w.heap.size ≤ g) (hl : g < w'.heap.size) : Pr w' b ve vo g :=
  ⟨hl, by have := h.lt; omega, fun e => by have := (World.ownsRow.lt h.els g e).2; omega, fun e => by have := (World.ownsRow.lt h.out g e).2; omega⟩
theorem IS.keE (h : IS w b ve vo s) : ∀ i, KE b ve i → b ≤ i := fun i hi => hi.elim (fun e => by omega) (fun e => by have := (World.ownsRow.lt h.els i e).1; omega)
theorem IS.keO (h : IS w b ve vo s) : ∀ i, KE b vo i → b ≤ i := fun i hi => hi.elim (fun e => by omega) (fun e => by have := (World.ownsRow.lt h.out i e).1; omega)
/-- The inserter's own block is known, its rows are as they were in an elder world. -/
theorem IS.mk2 {w2 w3 : World} {s' : St} (h : IS w b ve vo s) (h2 : IS w2 b ve vo s) (ho : Only (fun i => i = b ∨ w.heap.size ≤ i) w2 w3) (hb : w3.heap[b]? = some (.cells #[ve, .int .i64 s'.written, vo, .bool s'.exp, .string s'.word] 42 (0, 0))) (he : s'.els = s.els) (hout : s'.out = s.out) : IS w3 b ve vo s' := by
  refine ⟨hb, ?_, ?_⟩
  · rw [he]
    refine h2.els.only ho (fun g hg hc => ?_)
    have := World.ownsRow.lt h.els g hg
    omega
  · rw [hout]
    refine h2.out.only ho (fun g hg hc => ?_)
    have := World.ownsRow.lt h.out g hg
    omega
/-- A cell of the inserter's block is written; the rows are known. -/
theorem IS.put {v : Value} {k : Nat} {ve' vo' : Value} {s' : St} (h' : w.heap[b]? = some (.cells #[ve, .int .i64 s.written, vo, .bool s.exp, .string s.word] 42 (0, 0))) (hc : (#[ve, .int .i64 s.written, vo, .bool s.exp, .string s.word] : Array Value).set! k v = #[ve', .int .i64 s'.written, vo', .bool s'.exp, .string s'.word])
    (he : ER w (b + 1) ve' s'.els) (ho : TR w (b + 1) vo' s'.out) : IS (w.setCell ⟨b, k, none⟩ v) b ve' vo' s' := by
  have hO : Only (· = b) w (w.setCell ⟨b, k, none⟩ v) := Only.setCell (K := (· = b)) (Only.refl _ _) rfl v
  refine ⟨?_, he.only hO (fun g hg e => by have := (World.ownsRow.lt he g hg).1; omega), ho.only hO (fun g hg e => by have := (World.ownsRow.lt ho g hg).1; omega)⟩
  rw [← hc]
  simp [World.setCell, Array.getElem?_modify, h']
/-- The inserter's own block and its tokens, while its stack grows; and the other way about. -/
theorem IS.grownE {w' : World} (h : IS w b ve vo s) (hg : w.grownBy w' ve.ownBlock) : w'.heap[b]? = some (.cells #[ve, .int .i64 s.written, vo, .bool s.exp, .string s.word] 42 (0, 0)) ∧ TR w' (b + 1) vo s.out :=
  ⟨(hg.block b h.lt (fun e => by have := (World.ownsRow.lt h.els b e.symm).1; omega)).trans h.blk,
   rowKeep h.out (fun g hgg => hg.block g (World.ownsRow.lt h.out g hgg).2 (fun e => rowApart h.out h.els (by decide) hgg e.symm))⟩
theorem IS.grownO {w' : World} (h : IS w b ve vo s) (hg : w.grownBy w' vo.ownBlock) : w'.heap[b]? = some (.cells #[ve, .int .i64 s.written, vo, .bool s.exp, .string s.word] 42 (0, 0)) ∧ ER w' (b + 1) ve s.els :=
  ⟨(hg.block b h.lt (fun e => by have := (World.ownsRow.lt h.out b e.symm).1; omega)).trans h.blk,
   rowKeep h.els (fun g hgg => hg.block g (World.ownsRow.lt h.els g hgg).2 (fun e => rowApart h.els h.out (by decide) hgg e.symm))⟩
theorem blk_c {cs : Array Value} {t : TypeId} {k : Nat} {v : Value} (h : w.heap[b]? = some (.cells cs t (0, 0))) (hk : cs[k]? = some v) : w.cell? ⟨b, k, none⟩ = some v ∧ w.frozen? ⟨b, k, none⟩ = false := by
  constructor
  · simp [World.cell?, h, hk]
  · simp [World.frozen?, h]
set_option maxRecDepth 100000 in
set_option maxHeartbeats 2000000 in
theorem push_p (h : IS w b ve vo s) (hk : Ok 1 s) (e : El) : Calls Try.prog 36 #[.pointer (some ⟨b, 0, none⟩), elV e] w fun r w' => r = .returned (.tuple #[]) ∧ ∃ ve', IS w' b ve' vo (pushE s e) ∧ Frm w b ve vo w' ve' vo := by
  have hb := h.lt
  have hz := hk.els_le
  obtain ⟨hw0, hw1⟩ := hk.wr0
  obtain ⟨oa, ca, rfl⟩ := h.elen
  have hA : Only (fun _ => False) w (w.alloc (.cells (elA e) 59)) := (Only.refl _ _).alloc _
  have h0 := h.same hA
  have e0 : EB (w.alloc (.cells (elA e) 59)) w.heap.size e := new_block _ _
  have c00 := h.c0
  obtain ⟨i0', hi, hz0, hz1, hz2⟩ := info_parts infoEl
  have hcase : (isBlk e.kind = true ∧ isCtx e.kind = true ∧ isWri e.kind = false) ∨ (isBlk e.kind = true ∧ isCtx e.kind = true ∧ isWri e.kind = true) ∨ (isBlk e.kind = false ∧ isCtx e.kind = true ∧ isWri e.kind = true) ∨ (isBlk e.kind = false ∧ isCtx e.kind = false ∧ isWri e.kind = false) := by
    unfold isBlk isWri isCtx
    by_cases h1 : e.kind ≤ 1 <;> by_cases h3 : e.kind ≤ 3 <;> by_cases h0 : e.kind = 0 <;> simp [h1, h3, h0] <;> omega
  rcases hcase with ⟨hB, hC, hW⟩ | ⟨hB, hC, hW⟩ | ⟨hB, hC, hW⟩ | ⟨hB, hC, hW⟩
  all_goals
    go_enter Try.func36, Try.ntmps36
    go_wp2_with (first | (go_at_call 58; refine (topBlock_p h0 hk).mono ?_; rintro r w1 ⟨rfl, hO1⟩; have h1 := h0.same hO1; have e1 := e0.same hO1) | (go_at_call 59; refine (topContext_p h1 hk).mono ?_; rintro r w2 ⟨rfl, hO2⟩; have h2 := h1.same hO2; have e2 := e1.same hO2; have c0 := h2.c0; have c1 := h2.c1; have z0 := h2.fz 0; have z1 := h2.fz 1; have d0 := e2.c0; have d1 := e2.c1; have d2 := e2.c2; have d3 := e2.c3; have d4 := e2.c4; have d5 := e2.c5; have y4 := e2.fz 4; have y5 := e2.fz 5) | (go_at_call 60; refine (isBlock_p _ _).mono ?_; rintro r w9 ⟨rfl, rfl⟩) | (go_at_call 61; refine (isContext_p _ _).mono ?_; rintro r w9 ⟨rfl, rfl⟩) | (go_at_call 46; refine (isWritten_p _ _).mono ?_; rintro r w9 ⟨rfl, rfl⟩))
    clear c0 c1 z0 z1 d0 d1 d2 d3 d4 d5 y4 y5 c00
    have hne : ¬ w.heap.size = b := by omega
    have hne' : ¬ b = w.heap.size := by omega
    refine gen_world (fun wx => EB wx w.heap.size ⟨e.kind, e.col, e.word, e.marked, (if isBlk e.kind then (s.els.length : Int) else topB s.els), (if isCtx e.kind then (s.els.length : Int) else topC s.els)⟩ ∧ IS wx b (.slice oa s.els.length ca) vo { s with written := if isWri e.kind then s.written + 1 else s.written } ∧ Only (· = b) w wx) ⟨?_, ?_, ?_⟩ ?_
    · have e2' := e2
      unfold EB at e2' ⊢
      simp [World.setCell, Array.getElem?_modify, e2', hne', hB, hC]
    · have h2' := h2.blk
      refine IS.mk2 (s := s) h h2 ?_ ?_ rfl rfl
      · repeat' (first | exact Only.refl _ _ | refine Only.setCell ?_ (.inl rfl) _ | refine Only.setCell ?_ (.inr (Nat.le_refl _)) _)
      · simp [World.setCell, Array.getElem?_modify, h2', hne, hW]
    · refine Only.then (K := (· = b)) (K' := fun i => i = b ∨ i = w.heap.size) ((hA.trans hO1).trans hO2).lift ?_ (fun i hi => hi.elim .inl (fun hh => .inr (by omega)))
      repeat' (first | exact Only.refl _ _ | refine Only.setCell ?_ (.inl rfl) _ | refine Only.setCell ?_ (.inr rfl) _)
    · rintro wx ⟨hE, hS, hX⟩
      clear hO1 h1 e1 hO2 h2 e2 h0 e0 hA
      obtain ⟨E, hEd⟩ : ∃ E : El, E = ⟨e.kind, e.col, e.word, e.marked, (if isBlk e.kind then (s.els.length : Int) else topB s.els), (if isCtx e.kind then (s.els.length : Int) else topC s.els)⟩ := ⟨_, rfl⟩
      obtain ⟨S, hSd⟩ : ∃ S : St, S = { s with written := if isWri e.kind then s.written + 1 else s.written } := ⟨_, rfl⟩
      rw [← hEd] at hE
      rw [← hSd] at hS
      have HP : Hid (pushE s e = { S with els := S.els ++ [E] }) := Lib.hid (by rw [hEd, hSd]; rfl)
      have HL : Hid (S.els.length = s.els.length) := Lib.hid (by rw [hSd])
      have HEd := Lib.hid hEd
      have HSd := Lib.hid hSd
      clear hEd hSd
      have c0 := hS.c0
      have z0 := hS.fz 0
      have d0 := hE.c0
      have d1 := hE.c1
      have d2 := hE.c2
      have d3 := hE.c3
      have d4 := hE.c4
      have d5 := hE.c5
      have HOWN : wx.ownsRow (b + 1) 59 6 (.slice oa s.els.length ca) s.els.length (S.els.flatMap elCells) := by have := hS.els; unfold ER at this; rw [HL.out] at this; exact this
      have hbx := hS.lt
      go_region_law ((refine step_append_lies _ rfl (.tmp 40) (.tmp 42) 38 rfl (b + 1) 59 i0' (.agg #[.int .i64 0, .int .i64 0, .string ⟨#[]⟩, .bool false, .int .i64 0, .int .i64 0]) 6 56 Try.underlying38 hi hz0 hz1 hz2 rfl (by decide) (.slice oa s.els.length ca) s.els.length (S.els.flatMap elCells) ?e1 (World.ownsRow.alloc HOWN _) ⟨wx.heap.size, 0, none⟩ 1 1 (elCells E) ?e2 rfl (World.news_of_block (new_block wx _)) (one_el E) Nat.one_pos (by unfold maxLen; omega) (by omega) (by show b + 1 ≤ (wx.heap.push _).size; simp only [Array.size_push]; omega) _ rfl ?_); (case e1 => simp [Act.eval]); (case e2 => simp [Act.eval]); (intro g cg w3 hown' hgrow hat hlt'; have hS3 := IS.grownE (hS.same (((Only.refl _ _).alloc _).drew)) hgrow; have f0 := (blk_c (k := 0) hS3.1 rfl).1; have g0 := (blk_c (k := 0) hS3.1 rfl).2))
      all_goals
        have hER := ER.snoc (e := E) (by rw [HL.out]; exact hown')
        have hO3 : Only (KE b (.slice oa s.els.length ca)) w w3 := (((hX.wide (fun i hi => .inl hi)).alloc _).drew).trans (Only.grown hgrow (fun k hk => .inr hk))
        have HBL := Lib.hid (show ∀ g', (Value.slice (some ⟨g, 0, none⟩) (s.els.length + 1) cg).ownBlock = some g' → (Value.slice oa s.els.length ca).ownBlock = some g' ∨ w.heap.size ≤ g' from fun g' hg' => by
          have hgg : g = g' := Option.some.inj hg'
          have hzz : w.heap.size ≤ wx.heap.size := hX.size
          rcases hat with e | e
          · exact .inl (hgg ▸ e)
          · right
            have e3 : g = (wx.heap.push (.cells (elA E) 59)).size := e
            rw [Array.size_push] at e3
            omega)
        clear hown' hgrow HOWN hS hE hX c0 z0 d0 d1 d2 d3 d4 d5
        go_wp2
        go_end0
        exact ⟨rfl, _, by rw [HP.out]; exact IS.put (s := S) hS3.1 rfl hER hS3.2, ⟨(hO3.setCell (.inl rfl) _).wide (fun i hi => hi.elim .inl (fun e => .inr (.inl e))), HBL.out, fun _ hg => .inl hg⟩⟩
end
end Go.Proofs.Ythblchafjmgmbaa
