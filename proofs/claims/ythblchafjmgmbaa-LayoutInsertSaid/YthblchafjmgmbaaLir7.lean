/-
  PLAIN. The program's layout and the reference's side by side: items, marks, lines, commas, words.
  PLAIN. The program's layout and the reference's side by side: commas, words, special tokens.
  PLAIN. Of the layout algorithm: its run over its own output: many closing braces; closing down to an element.
  PLAIN. Of the layout algorithm: its run over its own output: closing, lines, commas side by side.
  PLAIN. Of the layout algorithm: its run over its own output: closing to an element; a token's own work.
  PLAIN. Of the layout algorithm: its run over its own output: a token's own work, side by side.
  PLAIN. Of the layout algorithm: its run over its own output: words; a whole token; the end; Insert of what Explicit makes of its result.
  PLAIN. Of the layout algorithm: Insert of what Explicit makes of its result gives the same tokens.
  PLAIN. The reference's layout answers as the program's.
  PLAIN. The reference's Insert answers as the program's, at every list of tokens.
-/
import Derived.Test.YthblchafjmgmbaaLir3
import Derived.Test.YthblchafjmgmbaaIns4
namespace Go.Proofs.Ythblchafjmgmbaa
open Go.RowKit
theorem pen_ctx (k : Int) : isPen k = !isCtx k := by
  unfold isPen isCtx
  by_cases h : k ≤ 3
  · have : ¬ 3 < k := by omega
    simp [h, this]
  · have : 3 < k := by omega
    simp [h, this]
theorem Rl.item {s : St} {m : RM} (h : Rl s m) (t : Tok) : Rl (itemS s t) (rItem m t) := by
  unfold itemS rItem
  rw [h.out]
  cases s.out.getLast? with
  | none => exact h
  | some u =>
    simp only
    split
    · have hR : ∃ A B, s.els = A ++ B ∧ dropP s.els = A ∧ Pens B ∧ (A.length : Int) = rCtx m.stack + 1 := by
        rw [h.stack, rCtx_map h.kd]
        rcases getE_lix (p := fun e => isCtx e.kind) (l := s.els) with ⟨_, g2, g3⟩ | ⟨A, e, Q, g1, g2, g3, g4, _⟩
        · have hp : Pens s.els := fun e he => by rw [pen_ctx, g3 e he]; rfl
          obtain ⟨D, d1, d2⟩ := drop_split s.els
          refine ⟨[], s.els, rfl, ?_, hp, by rw [g2]; rfl⟩
          unfold dropP
          have : s.els.reverse.dropWhile (fun e => isPen e.kind) = [] := by
            have nl : ∀ r : List El, Pens r → r.dropWhile (fun e => isPen e.kind) = [] := by
              intro r
              induction r with
              | nil => intro _; rfl
              | cons e r ih =>
                intro hr
                rw [List.dropWhile_cons, if_pos (hr e (List.mem_cons_self ..))]
                exact ih (fun u hu => hr u (List.mem_cons_of_mem _ hu))
            exact nl _ (fun u hu => hp u (List.mem_reverse.1 hu))
          rw [this]; rfl
        · refine ⟨A ++ [e], Q, by rw [g1]; simp, ?_, fun q hq => by rw [pen_ctx, g3 q hq]; rfl, by rw [g4]; simp⟩
          rw [g1]
          exact drop_pens (by rw [pen_ctx, g2]; rfl) (fun q hq => by rw [pen_ctx, g3 q hq]; rfl)
      obtain ⟨A, B, h1, h2, h3, h4⟩ := hR
      have hz : imp B = 0 := by
        unfold imp
        rw [List.countP_eq_zero]
        intro u hu
        have := (pen_kind (h3 u hu)).2.1
        simpa using this
      have hw : wrOk { s with els := dropP s.els } := by
        show s.written = ((dropP s.els).countP _ : Nat)
        rw [h.wr, h1, ← h1, h2]
        have h5 : B.countP (fun e => isWri e.kind) = 0 := by
          rw [List.countP_eq_zero]
          intro u hu
          rw [(pen_kind (h3 u hu)).1]; exact Bool.false_ne_true
        rw [h1, List.countP_append, h5]; rfl
      have hc := h.cut (s' := { s with els := dropP s.els }) h1 h2 (by rw [hz]; exact (List.append_nil _).symm) hw rfl rfl
      have : ({ m with stack := m.stack.take (rCtx m.stack + 1).toNat, out := s.out } : RM) = { m with stack := m.stack.take A.length, out := m.out ++ rep (imp B) } := by
        rw [hz, ← h4, h.out]
        congr 1
        · exact (List.append_nil _).symm
      rw [this]
      exact hc
    · exact h
theorem getR_ctx {s : St} {m : RM} (h : Rl s m) : getR m.stack (rCtx m.stack) = (getE s.els (topC s.els)).map toR ∧ rCtx m.stack = topC s.els := by
  have : rCtx m.stack = topC s.els := by rw [h.stack, rCtx_map h.kd, topC_eq h.wf]
  rw [this, h.stack, getR_map]
  exact ⟨rfl, rfl⟩
theorem getR_blk {s : St} {m : RM} (h : Rl s m) : getR m.stack (rBlk m.stack) = (getE s.els (topB s.els)).map toR ∧ rBlk m.stack = topB s.els := by
  have : rBlk m.stack = topB s.els := by rw [h.stack, rBlk_map h.kd, topB_eq h.wf]
  rw [this, h.stack, getR_map]
  exact ⟨rfl, rfl⟩
theorem getE_mem {l : List El} {i : Int} {e : El} (h : getE l i = some e) : e ∈ l := by
  unfold getE at h
  split at h
  · cases h
  · exact List.mem_of_getElem? h
theorem toR_imp {s : St} {m : RM} (h : Rl s m) {e : El} (he : e ∈ s.els) : ((toR e).form == 1) = (e.kind == 0) := form_imp (h.kd e he)
theorem Rl.mark {s : St} {m : RM} (h : Rl s m) (b : Bool) : Rl (markS s b) (rMark m b) := by
  obtain ⟨g1, g2⟩ := getR_ctx h
  unfold markS rMark
  rw [g1, impl_get]
  cases hg : getE s.els (topC s.els) with
  | none => exact h
  | some e =>
    simp only [Option.map_some, Option.bind_some]
    rw [toR_imp h (getE_mem hg)]
    cases hk : (e.kind == 0) with
    | true => rw [g2]; exact h.eq _ b
    | false => exact h
theorem word_imp {e : El} (h : e.kind = 0) : (toR e).word = e.word := by
  show wordR e = _
  unfold wordR
  rw [h]; rfl
theorem begC_rel {s : St} {m : RM} (h : Rl s m) : begC s = rBegC m.stack := by
  obtain ⟨g1, _⟩ := getR_blk h
  unfold begC rBegC
  rw [g1, impl_get]
  cases hg : getE s.els (topB s.els) with
  | none => rfl
  | some e =>
    simp only [Option.map_some, Option.bind_some]
    rw [toR_imp h (getE_mem hg)]
    cases (e.kind == 0) <;> rfl
def rs (s : St) : St := { s with exp := false, word := ⟨#[]⟩ }
theorem Rl.rs {s : St} {m : RM} (h : Rl s m) (w : ByteArray) : Rl (rs s) { m with expects := false, word := w } := ⟨h.stack, h.out, h.wf, h.kd, h.wr, h.wd, rfl, fun _ => rfl, fun hh => by cases hh⟩
theorem begin_rel {s : St} {m : RM} (h : Rl s m) (hx : s.exp = true) (t : Tok) : (beginS s t).1 = (rOpen m t).1 ∧ Rl (rs (beginS s t).2) (rOpen m t).2 := by
  obtain ⟨e1, _, e3⟩ := h.ex
  have hw := e3 hx
  have h' := h.rs s.word
  have hb : begC s = rBegC m.stack := begC_rel h
  unfold beginS rOpen
  rw [e1, hx]
  simp only [Bool.not_true, Bool.false_eq_true, if_false]
  rw [hw, ← hb]
  split
  · exact ⟨rfl, h'⟩
  · split
    · exact ⟨rfl, h'⟩
    · split
      · exact ⟨rfl, (h'.ins 123).push (e := ⟨0, t.col, s.word, false, 0, 0⟩) (show (0 : Int) ≤ 0 ∧ (0 : Int) ≤ 7 by decide) rfl (fun hh => absurd hh (show ¬ ((0 : Int) = 2 ∨ (0 : Int) = 3) by decide))⟩
      · refine ⟨rfl, ?_⟩
        have hc : Go.Proofs.Ythblchafjmgmbaa.rs (closedS (insS (insS s 123) 125) s.word) = closedS (insS (insS (Go.Proofs.Ythblchafjmgmbaa.rs s) 123) 125) s.word := by
          unfold closedS
          split <;> rfl
        show Rl (Go.Proofs.Ythblchafjmgmbaa.rs (closedS (insS (insS s 123) 125) s.word)) _
        rw [hc]
        exact ((h'.ins 123).ins 125).closed s.word
/-- An implicit block e, with A below it, that a position points at, is closed. -/
theorem blk_rel {s : St} {m : RM} (h : Rl s m) {A Q : List El} {e : El} (hs : s.els = A ++ e :: Q) (he : e.kind = 0) (hq : ∀ q ∈ Q, q.kind ≠ 0) :
    ((A.length : Int) < rWri m.stack ∧ closeB s (isK 0) = none) ∨ (¬ (A.length : Int) < rWri m.stack ∧ ∃ s', closeB s (isK 0) = some s' ∧ Rl s' (rWait { m with stack := m.stack.take A.length, out := m.out ++ [insT 125] } e.word)) := by
  have hrev : s.els.reverse = Q.reverse ++ e :: A.reverse := by rw [hs]; simp
  have hq' : ∀ q ∈ Q, isK 0 q = false := fun q hh => by unfold isK; simpa using hq q hh
  have hl : lix (isK 0) s.els.reverse = A.length := by
    rw [hrev]
    rcases lix_app (isK 0) Q.reverse (e :: A.reverse) with ⟨_, h2⟩ | ⟨⟨u, h1, h2⟩, _⟩
    · rw [h2]
      have e1 : lix (isK 0) (e :: A.reverse) = if isK 0 e then (A.reverse.length : Int) else lix (isK 0) A.reverse := rfl
      rw [e1, if_pos (by unfold isK; rw [he]; rfl), List.length_reverse]
    · rw [hq' u (List.mem_reverse.1 h1)] at h2; cases h2
  have hw : rWri m.stack = lix (fun e => isWri e.kind) s.els.reverse := by rw [h.stack, rWri_map h.kd]
  rw [hw]
  by_cases hx : (A.length : Int) < lix (fun e => isWri e.kind) s.els.reverse
  · refine .inl ⟨hx, ?_⟩
    unfold closeB closeTo
    rw [find_lix, if_pos (.inr (by rw [hl]; exact hx))]
    rfl
  · have hqw : ∀ q ∈ Q, isWri q.kind = false := by
      rw [hrev] at hx
      rcases lix_app (fun e : El => isWri e.kind) Q.reverse (e :: A.reverse) with ⟨h1, _⟩ | ⟨_, h2⟩
      · exact fun q hh => h1 q (List.mem_reverse.2 hh)
      · rw [List.length_cons, List.length_reverse] at h2
        omega
    obtain ⟨w, hcl⟩ := closeTo_of (p := isK 0) hs (by unfold isK; rw [he]; rfl) (fun q hh => ⟨hq' q hh, hqw q hh⟩)
    have hR := h.cut (B := e :: Q) hs rfl rfl (closeTo_wr h.wr hcl) rfl rfl
    have hi : imp (e :: Q) = 1 := by
      have h1 : imp (e :: Q) = imp [e] + imp Q := imp_app [e] Q
      have h2 : imp Q = 0 := by
        unfold imp
        rw [List.countP_eq_zero]
        intro u hu
        simpa using hq u hu
      rw [h1, h2, imp_one, he]; rfl
    refine .inr ⟨hx, _, by unfold closeB; rw [hcl]; rfl, ?_⟩
    have hR2 := hR.closed e.word
    have h1 : rep (imp (e :: Q)) = [insT 125] := by rw [hi]; rfl
    rw [h1] at hR2
    show Rl (closedS ⟨A, w, s.out ++ rep (imp (e :: Q)), s.exp, s.word⟩ e.word) _
    rw [h1]
    exact hR2
theorem line_rel (k : Nat) : ∀ {s : St} {m : RM} {col : Int}, Rl s m → Two (lineS k s col) (rLines k m col) := by
  induction k with
  | zero => intro s m col h; exact .inr ⟨s, m, rfl, rfl, h⟩
  | succ k ih =>
    intro s m col h
    obtain ⟨g1, g2⟩ := getR_blk h
    unfold lineS rLines
    rw [g1, impl_get]
    rcases getE_lix (p := fun e => isBlk e.kind) (l := s.els) with ⟨j1, _, _⟩ | ⟨A, e, Q, j1, j2, j3, j4, j5⟩
    · rw [topB_eq h.wf, j1]
      exact .inr ⟨s, m, rfl, rfl, h⟩
    · rw [g2, topB_eq h.wf, j5]
      simp only [Option.map_some, Option.bind_some]
      have hm : e ∈ s.els := by rw [j1]; simp
      rw [toR_imp h hm]
      cases hk : (e.kind == 0) with
      | false => exact .inr ⟨s, m, rfl, rfl, h⟩
      | true =>
        have hk0 : e.kind = 0 := by simpa using hk
        have hq : ∀ q ∈ Q, q.kind ≠ 0 := by
          intro q hh h0
          have := j3 q hh
          rw [h0] at this; cases this
        simp only [if_true, Bool.not_true, Bool.false_or]
        have hcol : (toR e).col = e.col := rfl
        rw [hcol]
        by_cases h1 : e.col < col
        · rw [if_pos h1, if_pos (by simpa using h1)]
          exact .inr ⟨s, m, rfl, rfl, h⟩
        · have hd : decide (e.col < col) = false := decide_eq_false h1
          rw [if_neg h1, hd, if_neg Bool.false_ne_true]
          by_cases h2 : (col == e.col) = true
          · rw [if_pos h2, if_pos h2]
            have := (h.ins 59).eq (lix (fun e => isBlk e.kind) s.els.reverse) false
            exact .inr ⟨_, _, rfl, rfl, this⟩
          · rw [if_neg h2, if_neg h2, j4]
            rcases blk_rel h j1 hk0 hq with ⟨h3, h4⟩ | ⟨h3, s', h4, h5⟩
            · rw [if_pos h3, h4]
              exact .inl ⟨rfl, rfl⟩
            · rw [if_neg h3, h4, word_imp hk0]
              exact ih h5
end Go.Proofs.Ythblchafjmgmbaa
namespace Go.Proofs.Ythblchafjmgmbaa
open Go.RowKit
theorem wr_pos {s : St} {m : RM} (h : Rl s m) : 0 < s.written ↔ ¬ rWri m.stack < 0 := by
  rw [h.wr, h.stack, rWri_map h.kd]
  rcases lix_spec (fun e : El => isWri e.kind) s.els.reverse with ⟨h1, h2⟩ | ⟨U, e, D, h1, h2, _, h4⟩
  · rw [h1]
    have : s.els.countP (fun e => isWri e.kind) = 0 := by
      rw [List.countP_eq_zero]
      intro u hu
      rw [h2 u (List.mem_reverse.2 hu)]; exact Bool.false_ne_true
    rw [this]
    decide
  · rw [h4]
    have : 0 < s.els.countP (fun e => isWri e.kind) := by
      rw [List.countP_pos_iff]
      exact ⟨e, List.mem_reverse.1 (by rw [h1]; simp), h2⟩
    omega
theorem ctx_wri {k : Int} (h : isCtx k = false) : isWri k = false := by unfold isWri; rw [h]; rfl
theorem comma_rel (n : Nat) : ∀ {s : St} {m : RM}, Rl s m → Rl (commaS n s) (rComma n m) := by
  induction n with
  | zero => intro s m h; exact h
  | succ n ih =>
    intro s m h
    obtain ⟨g1, g2⟩ := getR_ctx h
    have hwp := wr_pos h
    unfold commaS rComma
    rw [g1, impl_get]
    by_cases hw : 0 < s.written
    · rw [if_pos hw]
      have hw0 : decide (rWri m.stack < 0) = false := decide_eq_false (hwp.1 hw)
      rcases getE_lix (p := fun e => isCtx e.kind) (l := s.els) with ⟨j1, _, _⟩ | ⟨A, e, Q, j1, j2, j3, j4, j5⟩
      · rw [topC_eq h.wf, j1]
        exact h
      · rw [g2, topC_eq h.wf, j5]
        simp only [Option.map_some, Option.bind_some]
        have hm : e ∈ s.els := by rw [j1]; simp
        rw [toR_imp h hm, hw0]
        cases hk : (e.kind == 0) with
        | false => exact h
        | true =>
          have hk0 : e.kind = 0 := by simpa using hk
          have hq : ∀ q ∈ Q, q.kind ≠ 0 := by
            intro q hh h0
            have := j3 q hh
            rw [h0] at this; cases this
          simp only [if_true, Bool.not_true, Bool.false_or, Bool.false_eq_true, if_false]
          rw [word_imp hk0]
          have heq : (toR e).eq = e.marked := rfl
          rw [heq]
          by_cases hc : (tx e.word bDo || tx e.word bOf || e.marked) = true
          · rw [if_pos hc, if_pos hc]
            have hlt : ¬ (A.length : Int) < rWri m.stack := by
              rw [h.stack, rWri_map h.kd]
              have hrev : s.els.reverse = Q.reverse ++ e :: A.reverse := by rw [j1]; simp
              rw [hrev]
              rcases lix_app (fun e : El => isWri e.kind) Q.reverse (e :: A.reverse) with ⟨_, h2⟩ | ⟨⟨u, h1, h2⟩, _⟩
              · rw [h2]
                have e1 : lix (fun e : El => isWri e.kind) (e :: A.reverse) = if isWri e.kind then (A.reverse.length : Int) else lix (fun e : El => isWri e.kind) A.reverse := rfl
                have := lix_lt (fun e : El => isWri e.kind) A.reverse
                rw [List.length_reverse] at this
                rw [e1, hk0, if_neg (by decide)]
                omega
              · rw [ctx_wri (j3 u (List.mem_reverse.1 h1))] at h2; cases h2
            rcases blk_rel h j1 hk0 hq with ⟨h3, _⟩ | ⟨_, s', h4, h5⟩
            · exact absurd h3 hlt
            · rw [h4, Option.getD_some, j4]
              have hcut := cut_eq (m := m) (A := A) (B := e :: Q) (by rw [h.stack, j1]) (by have := h.kd; rw [j1] at this; exact this) (i := (A.length : Int) - 1) (by omega)
              have hi : imp (e :: Q) = 1 := by
                have h1 : imp (e :: Q) = imp [e] + imp Q := imp_app [e] Q
                have h2 : imp Q = 0 := by
                  unfold imp
                  rw [List.countP_eq_zero]
                  intro u hu
                  simpa using hq u hu
                rw [h1, h2, imp_one, hk0]; rfl
              rw [hcut, hi]
              exact ih h5
          · rw [if_neg hc, if_neg hc]
            exact h
    · rw [if_neg hw]
      have hw0 : decide (rWri m.stack < 0) = true := decide_eq_true (by
        by_cases hx : rWri m.stack < 0
        · exact hx
        · exact absurd (hwp.2 hx) hw)
      cases getE s.els (topC s.els) with
      | none => exact h
      | some e =>
        simp only [Option.map_some, hw0, Bool.or_true, if_true]
        exact h
/-- What a word looks for. -/
theorem seek_rel {s : St} {m : RM} (h : Rl s m) {p : El → Bool} {w : List UInt8} (hw : ∀ e ∈ s.els, rSought w (toR e) = p e) :
    (closeTo s p = none ∧ rSeek m w = none) ∨ ∃ e s' m1, closeTo s p = some (e, s') ∧ rSeek m w = some (if w == bIf then rPush m1 ⟨5, 0, bThenA, false⟩ else m1) ∧ Rl s' m1 := by
  have hi : lix (rSought w) m.stack.reverse = lix p s.els.reverse := by
    rw [h.stack, ← List.map_reverse, lix_map]
    exact lix_congr _ (fun e he => hw e (List.mem_reverse.1 he))
  have hr : rWri m.stack = lix (fun e => isWri e.kind) s.els.reverse := by rw [h.stack, rWri_map h.kd]
  unfold rSeek
  rw [hi, hr]
  by_cases hx : lix p s.els.reverse < 0 ∨ lix p s.els.reverse < lix (fun e => isWri e.kind) s.els.reverse
  · refine .inl ⟨?_, ?_⟩
    · unfold closeTo
      rw [find_lix, if_pos hx]
    · simp only
      rw [if_pos (by simpa using hx)]
  · rcases getE_lix (p := p) (l := s.els) with ⟨_, j2, _⟩ | ⟨A, e, Q, j1, j2, j3, j4, j5⟩
    · exact absurd (.inl (by rw [j2]; decide)) hx
    · have hqw : ∀ q ∈ Q, isWri q.kind = false := by
        have hrev : s.els.reverse = Q.reverse ++ e :: A.reverse := by rw [j1]; simp
        rcases lix_app (fun e : El => isWri e.kind) Q.reverse (e :: A.reverse) with ⟨h1, _⟩ | ⟨_, h2⟩
        · exact fun q hh => h1 q (List.mem_reverse.2 hh)
        · rw [← hrev, List.length_cons, List.length_reverse] at h2
          rw [j4] at hx
          exfalso
          apply hx
          right
          omega
      obtain ⟨w1, hcl⟩ := closeTo_of (p := p) j1 j2 (fun q hh => ⟨j3 q hh, hqw q hh⟩)
      have hR := h.cut (B := e :: Q) j1 rfl rfl (closeTo_wr h.wr hcl) rfl rfl
      refine .inr ⟨e, _, _, hcl, ?_, hR⟩
      have hcut := cut_eq (m := m) (A := A) (B := e :: Q) (by rw [h.stack, j1]) (by have := h.kd; rw [j1] at this; exact this) (i := (A.length : Int) - 1) (by omega)
      simp only
      rw [if_neg (by simpa using hx), j4, hcut]
theorem sought_k {e : El} (h : 0 ≤ e.kind ∧ e.kind ≤ 7) : rSought bCase (toR e) = isK 4 e ∧ rSought bIf (toR e) = isK 5 e ∧ rSought bThen (toR e) = isK 6 e ∧ rSought bLet (toR e) = letE e := by
  have : e.kind = 0 ∨ e.kind = 1 ∨ e.kind = 2 ∨ e.kind = 3 ∨ e.kind = 4 ∨ e.kind = 5 ∨ e.kind = 6 ∨ e.kind = 7 := by omega
  have d1 : (bCase == bLet) = false := by decide
  have d2 : (bIf == bLet) = false := by decide
  have d3 : (bThen == bLet) = false := by decide
  have d4 : (bLet == bLet) = true := by decide
  unfold rSought toR wordR formR isK letE
  rw [d1, d2, d3, d4]
  rcases this with h | h | h | h | h | h | h | h <;> rw [h] <;> refine ⟨?_, ?_, ?_, ?_⟩ <;> first | rfl | decide
end Go.Proofs.Ythblchafjmgmbaa
namespace Go.Proofs.Ythblchafjmgmbaa
open Go.RowKit
theorem pens_no {l : List El} (h : Pens l) : NoI l := fun e he => by
  have h3 := h e he
  unfold isPen at h3
  have : 3 < e.kind := by simpa using h3
  omega
theorem pens_imp {l : List El} (h : Pens l) : imp l = 0 := NoI.imp (pens_no h)
theorem Pens.app {a b : List El} (h : Pens a) (h2 : Pens b) : Pens (a ++ b) := fun e he => (List.mem_append.1 he).elim (h e) (h2 e)
/-- The topmost implicit block. -/
theorem imp_split (n : Nat) : ∀ (Q : List El), (∀ q ∈ Q, isWri q.kind = false) → imp Q = n + 1 → ∃ A e B, Q = A ++ e :: B ∧ e.kind = 0 ∧ Pens B ∧ imp A = n := by
  intro Q
  have rv : ∀ (R : List El), (∀ q ∈ R, isWri q.kind = false) → imp R = n + 1 → ∃ A e B, R = A ++ e :: B ∧ e.kind = 0 ∧ Pens A ∧ imp B = n := by
    intro R
    induction R with
    | nil => intro _ h; cases h
    | cons a R ih =>
      intro hw h
      have hi : imp (a :: R) = imp [a] + imp R := imp_app [a] R
      rw [imp_one] at hi
      by_cases hk : a.kind = 0
      · refine ⟨[], a, R, rfl, hk, fun e he => absurd he List.not_mem_nil, ?_⟩
        rw [if_pos (by simpa using hk)] at hi
        omega
      · rw [if_neg (by simpa using hk)] at hi
        obtain ⟨A, e, B, h1, h2, h3, h4⟩ := ih (fun q hq => hw q (List.mem_cons_of_mem _ hq)) (by omega)
        refine ⟨a :: A, e, B, by rw [h1]; rfl, h2, fun u hu => ?_, h4⟩
        rcases List.mem_cons.1 hu with rfl | hu
        · have := hw u (List.mem_cons_self ..)
          unfold isWri isCtx at this
          unfold isPen
          rcases Bool.and_eq_false_iff.1 this with h5 | h5
          · have : ¬ u.kind ≤ 3 := by simpa using h5
            simp; omega
          · exact absurd (by simpa using h5) hk
        · exact h3 u hu
  intro hw h
  obtain ⟨A, e, B, h1, h2, h3, h4⟩ := rv Q.reverse (fun q hq => hw q (List.mem_reverse.1 hq)) (by unfold imp at h ⊢; rw [List.countP_reverse]; exact h)
  refine ⟨B.reverse, e, A.reverse, ?_, h2, fun u hu => h3 u (List.mem_reverse.1 hu), by unfold imp at h4 ⊢; rw [List.countP_reverse]; exact h4⟩
  have := congrArg List.reverse h1
  rw [List.reverse_reverse] at this
  rw [this]; simp
theorem key_split {Q Q2 A B : List El} {e : El} (h : Q.map key = Q2.map key) (hq : Q = A ++ e :: B) :
    ∃ A2 e2 B2, Q2 = A2 ++ e2 :: B2 ∧ A.map key = A2.map key ∧ key e = key e2 ∧ B.map key = B2.map key := by
  rw [hq, List.map_append, List.map_cons] at h
  obtain ⟨A2, R, h1, h2, h3⟩ := List.map_eq_append_iff.1 h.symm
  obtain ⟨e2, B2, h4, h5, h6⟩ := List.map_eq_cons_iff.1 h3
  exact ⟨A2, e2, B2, by rw [h1, h4], h2.symm, h5.symm, h6.symm⟩
theorem key_app {Q Q2 A B : List El} (h : Q.map key = Q2.map key) (hq : Q = A ++ B) :
    ∃ A2 B2, Q2 = A2 ++ B2 ∧ A.map key = A2.map key ∧ B.map key = B2.map key := by
  rw [hq, List.map_append] at h
  obtain ⟨A2, R, h1, h2, h3⟩ := List.map_eq_append_iff.1 h.symm
  exact ⟨A2, R, h1, h2.symm, h3.symm⟩
theorem key_kind {e e2 : El} (h : key e = key e2) (h2 : 0 < e2.kind) : e2.kind = (if e.kind = 0 then 1 else e.kind) ∧ e2.word = e.word := by
  unfold key at h
  rw [if_neg (show ¬ e2.kind = 0 by omega), Prod.mk.injEq] at h
  exact ⟨h.1.symm, h.2.symm⟩
theorem key_mem {A A2 : List El} (h : A.map key = A2.map key) {u : El} (hu : u ∈ A2) : ∃ v ∈ A, key v = key u := by
  have : key u ∈ A.map key := by rw [h]; exact List.mem_map_of_mem hu
  obtain ⟨v, h1, h2⟩ := List.mem_map.1 this
  exact ⟨v, h1, h2⟩
theorem key_pens {A A2 : List El} (h : A.map key = A2.map key) (hn : NoI A2) (hp : Pens A) : Pens A2 := by
  intro u hu
  obtain ⟨v, hv, hk⟩ := key_mem h hu
  have := (key_kind hk (hn u hu)).1
  have hvp := hp v hv
  rw [if_neg (pen_kind hvp).2.1] at this
  rw [this]; exact hvp
/-- What lies above after the braces: what lay there, or a pending let where a block of let was. -/
def Over (Q Q2 P : List El) : Prop := ∀ u ∈ P, (u ∈ Q2 ∧ isPen u.kind = true) ∨ (u.kind = 7 ∧ u.word = ⟨#[]⟩ ∧ ∃ q ∈ Q, q.kind = 0 ∧ tx q.word bLet = true)
theorem Over.pens {Q Q2 P : List El} (h : Over Q Q2 P) : Pens P := by
  intro u hu
  rcases h u hu with h | h
  · exact h.2
  · rw [h.1]; decide
/-- Many closing braces; D: pendings that may lie on top. -/
theorem multi (n : Nat) : ∀ (s : St) (A2 Q Q2 D : List El), NoI s.els → Calm s → s.els = A2 ++ (Q2 ++ D) → Q.map key = Q2.map key → (∀ q ∈ Q, isWri q.kind = false) → Pens D → imp Q = n →
    ∃ s' P, Runs s (List.replicate n (exT 125)) s' ∧ s'.els = A2 ++ P ∧ NoI s'.els ∧ Calm s' ∧ s'.out = s.out ++ List.replicate n (exT 125) ∧ Pens P ∧ (n ≠ 0 → Over Q Q2 P) ∧ (n = 0 → s' = s) := by
  induction n with
  | zero =>
    intro s A2 Q Q2 D hn hc hs hk hw hD hi
    have hp : Pens Q := by
      intro u hu
      unfold imp at hi
      rw [List.countP_eq_zero] at hi
      have h0 := hi u hu
      have := hw u hu
      unfold isWri isCtx at this
      unfold isPen
      rcases Bool.and_eq_false_iff.1 this with h5 | h5
      · have : ¬ u.kind ≤ 3 := by simpa using h5
        simp; omega
      · exact absurd (by simpa using h5) (by simpa using h0)
    have hp2 : Pens Q2 := key_pens hk ((hs ▸ hn : NoI (A2 ++ (Q2 ++ D))).right.left) hp
    exact ⟨s, Q2 ++ D, .nil _, hs, hn, hc, (List.append_nil _).symm, hp2.app hD, fun h => absurd rfl h, fun _ => rfl⟩
  | succ n ih =>
    intro s A2 Q Q2 D hn hc hs hk hw hD hi
    obtain ⟨A, e, B, h1, h2, h3, h4⟩ := imp_split n Q hw hi
    obtain ⟨C2, e2, B2, g1, g2, g3, g4⟩ := key_split hk h1
    have hn2 := (hs ▸ hn : NoI (A2 ++ (Q2 ++ D))).right.left
    rw [g1] at hn2
    have he2 := key_kind g3 (hn2 e2 (by simp))
    rw [h2] at he2
    have hB2 : Pens B2 := key_pens g4 (fun u hu => hn2 u (by simp [hu])) h3
    have hs2 : s.els = (A2 ++ C2) ++ e2 :: (B2 ++ D) := by rw [hs, g1]; simp
    obtain ⟨s1, x, k1, k2, k3, k4, k5, k6, k7⟩ := step_close hn hc hs2 he2.1 (hB2.app hD)
    let X : List El := if tx e2.word bLet then [x] else []
    have hX : Pens X := by
      intro u hu
      by_cases hl : tx e2.word bLet = true
      · have : X = [x] := if_pos hl
        rw [this, List.mem_singleton] at hu
        subst hu; rw [k3]; decide
      · have : X = [] := if_neg hl
        rw [this] at hu; exact absurd hu List.not_mem_nil
    have k2' : s1.els = A2 ++ ((C2 ++ X) ++ []) := by rw [k2, List.append_nil, List.append_assoc]
    have hAw : ∀ q ∈ A, isWri q.kind = false := fun q hq => hw q (by rw [h1]; simp [hq])
    obtain ⟨s2, P, j1, j2, j3, j4, j5, j6, j7, j8⟩ := ih s1 A2 (A ++ X) (C2 ++ X) [] k5 k6 k2' (by rw [List.map_append, List.map_append, g2]) (fun q hq => by
      rcases List.mem_append.1 hq with hq | hq
      · exact hAw q hq
      · exact (pen_kind (hX q hq)).1) (fun u hu => absurd hu List.not_mem_nil) (by rw [imp_app, pens_imp hX]; omega)
    refine ⟨s2, P, ?_, j2, j3, j4, ?_, j6, fun _ => ?_, fun h => absurd h (by omega)⟩
    · rw [List.replicate_succ]; exact .cons k1 j1
    · rw [j5, k7, List.replicate_succ]; simp
    · have hx : ∀ u ∈ X, u.kind = 7 ∧ u.word = ⟨#[]⟩ ∧ ∃ q ∈ Q, q.kind = 0 ∧ tx q.word bLet = true := by
        intro u hu
        by_cases hl : tx e2.word bLet = true
        · have : X = [x] := if_pos hl
          rw [this, List.mem_singleton] at hu
          subst hu
          exact ⟨k3, k4, e, by rw [h1]; simp, h2, by rw [← he2.2]; exact hl⟩
        · have : X = [] := if_neg hl
          rw [this] at hu; exact absurd hu List.not_mem_nil
      by_cases hn0 : n = 0
      · have : s2 = s1 := j8 hn0
        rw [this, k2', List.append_nil] at j2
        have hP : P = C2 ++ X := (List.append_cancel_left j2).symm
        intro u hu
        have hup := j6 u hu
        rw [hP] at hu
        rcases List.mem_append.1 hu with hu | hu
        · exact .inl ⟨by rw [g1]; simp [hu], hup⟩
        · exact .inr (hx u hu)
      · intro u hu
        rcases j7 hn0 u hu with ⟨h5, h6⟩ | ⟨h5, h6, q, h7, h8, h9⟩
        · rcases List.mem_append.1 h5 with h5 | h5
          · exact .inl ⟨by rw [g1]; simp [h5], h6⟩
          · exact .inr (hx u h5)
        · rcases List.mem_append.1 h7 with h7 | h7
          · exact .inr ⟨h5, h6, q, by rw [h1]; simp [h7], h8, h9⟩
          · exact absurd h8 (pen_kind (hX q h7)).2.1
end Go.Proofs.Ythblchafjmgmbaa
namespace Go.Proofs.Ythblchafjmgmbaa
open Go.RowKit
theorem key_upd (e : El) (b c : Int) (m : Bool) : key { e with blk := b, ctx := c, marked := m } = key e := rfl
theorem Sim.push {s s2 : St} {e e2 : El} (h : Sim s s2) (hk : key e = key e2) (hn : 0 < e2.kind) : Sim (pushE s e) (pushE s2 e2) := by
  refine ⟨?_, ?_, h.out, h.exp, h.word⟩
  · show (s.els ++ [_]).map key = (s2.els ++ [_]).map key
    rw [List.map_append, List.map_append, h.els]
    congr 1
    show [key e] = [key e2]
    rw [hk]
  · intro u hu
    rcases List.mem_append.1 hu with hu | hu
    · exact h.no u hu
    · rw [List.mem_singleton] at hu; subst hu; exact hn
theorem Sim.closed {s s2 : St} (h : Sim s s2) (w : ByteArray) : Sim (closedS s w) (closedS s2 w) := by
  unfold closedS
  split
  · exact h.push rfl (by decide)
  · exact h
theorem mark_key (l : List El) (i : Int) (b : Bool) : (markAt l i b).map key = l.map key := by
  unfold markAt
  generalize i.toNat = k
  induction l generalizing k with
  | nil => simp
  | cons e l ih =>
    cases k with
    | zero => rfl
    | succ k => rw [List.modify_succ_cons, List.map_cons, List.map_cons, ih k]
theorem Sim.mark {s s2 : St} (h : Sim s s2) (b : Bool) : Sim (markS s b) s2 := by
  unfold markS
  split
  · exact h
  · exact ⟨by rw [← h.els]; exact mark_key _ _ _, h.no, h.out, h.exp, h.word⟩
theorem Sim.outs {s s2 : St} (h : Sim s s2) {t : Tok} (ht : t.auto = false) : Sim { s with out := s.out ++ [t] } { s2 with out := s2.out ++ [t] } := by
  refine ⟨h.els, h.no, ?_, h.exp, h.word⟩
  show s2.out ++ [t] = explL (s.out ++ [t])
  rw [expl_app, h.out]
  congr 1
  cases t
  simp only at ht
  subst ht; rfl
theorem dropW_key (r : List El) : ∀ (r2 : List El), r.map key = r2.map key → NoI r2 → (r.dropWhile (fun e => isPen e.kind)).map key = (r2.dropWhile (fun e => isPen e.kind)).map key := by
  induction r with
  | nil => intro r2 h _; cases r2 with
    | nil => rfl
    | cons _ _ => cases h
  | cons e r ih =>
    intro r2 h hn
    cases r2 with
    | nil => cases h
    | cons e2 r2 =>
      rw [List.map_cons, List.map_cons, List.cons.injEq] at h
      have hk := key_kind h.1 (hn e2 (List.mem_cons_self ..))
      have hp : isPen e.kind = isPen e2.kind := by
        rw [hk.1]
        by_cases h0 : e.kind = 0
        · rw [if_pos h0, h0]; rfl
        · rw [if_neg h0]
      rw [List.dropWhile_cons, List.dropWhile_cons, hp]
      split
      · exact ih r2 h.2 (fun u hu => hn u (List.mem_cons_of_mem _ hu))
      · rw [List.map_cons, List.map_cons, h.1, h.2]
theorem drop_key {l l2 : List El} (h : l.map key = l2.map key) (hn : NoI l2) : (dropP l).map key = (dropP l2).map key := by
  unfold dropP
  rw [List.map_reverse, List.map_reverse]
  congr 1
  exact dropW_key _ _ (by rw [List.map_reverse, List.map_reverse, h]) (fun u hu => hn u (List.mem_reverse.1 hu))
theorem drop_no {l : List El} (hn : NoI l) : NoI (dropP l) := by
  obtain ⟨D, h, _⟩ := drop_split l
  rw [h] at hn
  exact hn.left
theorem item_sim {s s2 : St} (h : Sim s s2) (t : Tok) : Sim (itemS s t) (itemS s2 t) := by
  have hl : s2.out.getLast? = s.out.getLast?.map xp := by rw [h.out]; exact List.getLast?_map ..
  unfold itemS
  rw [hl]
  cases s.out.getLast? with
  | none => exact h
  | some u =>
    simp only [Option.map_some]
    have hu : spT (xp u) [59] = spT u [59] := rfl
    rw [hu]
    split
    · exact ⟨drop_key h.els h.no, drop_no h.no, h.out, h.exp, h.word⟩
    · exact h
theorem item_calm {s : St} (h : Calm s) (t : Tok) : Calm (itemS s t) := by
  rcases item_cases s t with h1 | h1
  · rw [h1]; exact h
  · rw [h1]; exact h
theorem item_out (s : St) (t : Tok) : (itemS s t).out = s.out := by
  rcases item_cases s t with h1 | h1
  · rw [h1]
  · rw [h1]
theorem item_last {s : St} {o : List Tok} (h : s.out = o ++ [exT 125]) (t : Tok) : itemS s t = s := by
  unfold itemS
  rw [h, List.getLast?_concat]
  rfl
/-- As Sim, but pendings may lie on top. -/
structure SimD (s s2 : St) : Prop where
  els : ∃ E2 D2, s2.els = E2 ++ D2 ∧ Pens D2 ∧ s.els.map key = E2.map key
  no : NoI s2.els
  out : s2.out = explL s.out
  exp : s2.exp = s.exp
  word : s2.word = s.word
theorem Sim.d {s s2 : St} (h : Sim s s2) : SimD s s2 := ⟨⟨s2.els, [], (List.append_nil _).symm, fun _ hu => absurd hu List.not_mem_nil, h.els⟩, h.no, h.out, h.exp, h.word⟩
theorem Sim.item {s s2 : St} (h : Sim s s2) (t : Tok) : SimD (itemS s t) s2 := by
  rcases item_cases s t with h1 | h1
  · rw [h1]; exact h.d
  · rw [h1]
    obtain ⟨D, h2, h3⟩ := drop_split s.els
    obtain ⟨E2, D2, h4, h5, h6⟩ := key_app h.els h2
    exact ⟨⟨E2, D2, h4, key_pens h6 (h4 ▸ h.no : NoI (E2 ++ D2)).right h3, h5⟩, h.no, h.out, h.exp, h.word⟩
/-- An implicit block is closed. -/
theorem blk_sim {s s2 s' : St} (h : SimD s s2) (hc : Calm s) (hb : closeB s (isK 0) = some s') :
    ∃ s2', Runs s2 [exT 125] s2' ∧ Sim s' s2' ∧ Calm s' ∧ s'.out = s.out ++ [insT 125] := by
  unfold closeB at hb
  cases hcl : closeTo s (isK 0) with
  | none => rw [hcl] at hb; cases hb
  | some r =>
    obtain ⟨e, s1⟩ := r
    rw [hcl] at hb
    injection hb with hb
    simp only at hb
    obtain ⟨A, Q, h1, h2, h3, h4, h5, h6, h7⟩ := closeTo_spec hcl
    have he : e.kind = 0 := by unfold isK at h2; simpa using h2
    have hQ : Pens Q := by
      intro q hq
      obtain ⟨g1, g2⟩ := h3 q hq
      unfold isK at g1
      unfold isWri isCtx at g2
      unfold isPen
      have g1' : q.kind ≠ 0 := by simpa using g1
      rcases Bool.and_eq_false_iff.1 g2 with h | h
      · have : ¬ q.kind ≤ 3 := by simpa using h
        simp; omega
      · exact absurd (by simpa using h) g1'
    have hi : imp (e :: Q) = 1 := by
      have : imp (e :: Q) = imp [e] + imp Q := imp_app [e] Q
      rw [this, pens_imp hQ, imp_one, he]; rfl
    obtain ⟨E2, D2, k1, k2, k3⟩ := h.els
    obtain ⟨A2, e2, Q2, k4, k5, k6, k7⟩ := key_split k3 h1
    have hn : NoI (A2 ++ e2 :: (Q2 ++ D2)) := by have := h.no; rw [k1, k4] at this; simpa using this
    have he2 := key_kind k6 (hn e2 (by simp))
    rw [he] at he2
    obtain ⟨s2', x, j1, j2, j3, j4, j5, j6, j7⟩ := step_close (A := A2) (e := e2) (Q := Q2 ++ D2) h.no ⟨by rw [h.exp]; exact hc.1, by rw [h.word]; exact hc.2⟩ (by rw [k1, k4]; simp) he2.1 ((key_pens k7 (fun u hu => hn u (by simp [hu])) hQ).app k2)
    have hco : s'.out = s1.out ∧ s'.exp = s1.exp ∧ s'.word = s1.word := by
      rw [← hb]; unfold closedS; split <;> exact ⟨rfl, rfl, rfl⟩
    have ho : s'.out = s.out ++ [insT 125] := by rw [hco.1, h5, hi]; rfl
    have hc' : Calm s' := ⟨by rw [hco.2.1, h6]; exact hc.1, by rw [hco.2.2, h7]; exact hc.2⟩
    refine ⟨s2', .one j1, ⟨?_, j5, ?_, ?_, ?_⟩, hc', ho⟩
    · rw [j2, ← hb]
      unfold closedS
      by_cases hl : tx e.word bLet = true
      · rw [if_pos hl, if_pos (by rw [he2.2]; exact hl)]
        show (s1.els ++ [_]).map key = _
        rw [h4, List.map_append, List.map_append, k5]
        congr 1
        show [key (elK 7)] = [key x]
        unfold key
        rw [j3, j4]; rfl
      · rw [if_neg hl, if_neg (by rw [he2.2]; exact hl), h4, List.append_nil, k5]
    · rw [j7, h.out, ho, expl_app]; rfl
    · rw [j6.1, hc'.1]
    · rw [j6.2, hc'.2]
theorem Sim.calm {s s2 : St} (h : Sim s s2) (hc : Calm s) : Calm s2 := ⟨by rw [h.exp]; exact hc.1, by rw [h.word]; exact hc.2⟩
theorem line_sim (k : Nat) : ∀ {s s2 s' : St} {col : Int}, Sim s s2 → Calm s → lineS k s col = some s' →
    ∃ X s2', Runs s2 (explL X) s2' ∧ Sim s' s2' ∧ Calm s' ∧ s'.out = s.out ++ X := by
  induction k with
  | zero => intro s s2 s' col h hc hl; injection hl with hl; subst hl; exact ⟨[], s2, .nil _, h, hc, (List.append_nil _).symm⟩
  | succ k ih =>
    intro s s2 s' col h hc hl
    unfold lineS at hl
    split at hl
    · injection hl with hl; subst hl; exact ⟨[], s2, .nil _, h, hc, (List.append_nil _).symm⟩
    · split at hl
      · injection hl with hl; subst hl; exact ⟨[], s2, .nil _, h, hc, (List.append_nil _).symm⟩
      · split at hl
        · injection hl with hl; subst hl
          refine ⟨[insT 59], _, .one (step_semi h.no (h.calm hc)), ⟨?_, h.no, ?_, h.exp, h.word⟩, hc, rfl⟩
          · rw [← h.els]; exact mark_key _ _ _
          · show s2.out ++ _ = explL (s.out ++ [insT 59])
            rw [expl_app, h.out]; rfl
        · split at hl
          · cases hl
          · rename_i s1 hb
            obtain ⟨s3, h1, h2, h3, h4⟩ := blk_sim h.d hc hb
            obtain ⟨X, s4, g1, g2, g3, g4⟩ := ih h2 h3 hl
            exact ⟨insT 125 :: X, s4, h1.app g1, g2, g3, by rw [g4, h4]; simp⟩
theorem comma_sim (k : Nat) : ∀ {s s2 : St}, SimD s s2 → Calm s →
    commaS k s = s ∨ ∃ m s2', Runs s2 (explL (rep (m + 1))) s2' ∧ Sim (commaS k s) s2' ∧ Calm (commaS k s) ∧ (commaS k s).out = s.out ++ rep (m + 1) := by
  induction k with
  | zero => intro s s2 _ _; exact .inl rfl
  | succ k ih =>
    intro s s2 h hc
    unfold commaS
    split
    · split
      · exact .inl rfl
      · split
        · cases hb : closeB s (isK 0) with
          | none =>
            rw [Option.getD_none]
            exact ih h hc
          | some s1 =>
            rw [Option.getD_some]
            obtain ⟨s3, h1, h2, h3, h4⟩ := blk_sim h hc hb
            rcases ih h2.d h3 with g | ⟨m, s4, g1, g2, g3, g4⟩
            · rw [g]
              exact .inr ⟨0, s3, h1, h2, h3, h4⟩
            · refine .inr ⟨m + 1, s4, ?_, g2, g3, ?_⟩
              · rw [expl_rep] at g1 ⊢
                rw [List.replicate_succ]
                exact h1.app g1
              · rw [g4, h4]
                show _ = s.out ++ List.replicate (m + 1 + 1) (insT 125)
                rw [List.replicate_succ]
                simp [rep]
        · exact .inl rfl
    · exact .inl rfl
end Go.Proofs.Ythblchafjmgmbaa
namespace Go.Proofs.Ythblchafjmgmbaa
open Go.RowKit
structure Tr (p p2 : El → Bool) (e : El) : Prop where
  yes : ∀ u : El, u.kind = e.kind → u.word = e.word → p2 u = true
  no : ∀ q u : El, p q = false → isPen q.kind = true → u.kind = q.kind → u.word = q.word → p2 u = false
  lt : ∀ q u : El, p q = false → q.kind = 0 → tx q.word bLet = true → u.kind = 7 → p2 u = false
theorem tr_k {k : Int} (h7 : k ≠ 7) {e : El} (he : isK k e = true) : Tr (isK k) (isK k) e := by
  refine ⟨fun u hu _ => ?_, fun q u hq _ hu _ => ?_, fun q u _ _ _ hu => ?_⟩
  · unfold isK at he ⊢; rw [hu]; exact he
  · unfold isK at hq ⊢; rw [hu]; exact hq
  · unfold isK; rw [hu]; simpa using fun h => h7 h.symm
theorem tr_let {e : El} (he : letE e = true) (hk : e.kind ≠ 0) : Tr letE letE e := by
  have h7 : e.kind = 7 := by
    unfold letE at he
    rcases Bool.or_eq_true_iff.1 he with h | h
    · simpa using h
    · exact absurd (by simpa using (Bool.and_eq_true_iff.1 h).1) hk
  refine ⟨fun u hu _ => ?_, fun q u hq hp hu _ => ?_, fun q u hq h0 hl _ => ?_⟩
  · unfold letE; rw [hu, h7]; rfl
  · unfold letE at hq ⊢
    have h1 : (q.kind == 7) = false := (Bool.or_eq_false_iff.1 hq).1
    have h2 : (q.kind == 0) = false := by simpa using (pen_kind hp).2.1
    rw [hu, h1, h2]; rfl
  · unfold letE at hq
    have h1 := (Bool.or_eq_false_iff.1 hq).2
    rw [h0, hl] at h1
    cases h1
theorem item_exp (s : St) (t : Tok) : (itemS s t).exp = s.exp ∧ (itemS s t).word = s.word := by
  rcases item_cases s t with h1 | h1
  · rw [h1]; exact ⟨rfl, rfl⟩
  · rw [h1]; exact ⟨rfl, rfl⟩
theorem rep_last (n : Nat) (o : List Tok) (hn : n ≠ 0) : ∃ o', o ++ List.replicate n (exT 125) = o' ++ [exT 125] := by
  obtain ⟨k, rfl⟩ : ∃ k, n = k + 1 := ⟨n - 1, by omega⟩
  exact ⟨o ++ List.replicate k (exT 125), by rw [List.replicate_succ']; simp⟩
/-- Closing to an element, side by side: first the braces, then the token's own closing. -/
theorem close_sim {s s2 s' : St} {t : Tok} {p p2 : El → Bool} {e : El} (h : Sim s s2) (hc : Calm s) (hcl : closeTo (itemS s t) p = some (e, s')) (he : e.kind ≠ 0) (hT : Tr p p2 e) :
    ∃ m s2' e2 s3, Runs s2 (explL (rep m)) s2' ∧ NoI s2'.els ∧ Calm s2' ∧ closeTo (itemS s2' t) p2 = some (e2, s3) ∧ Sim s' s3 ∧ Calm s' ∧ e2.word = e.word ∧ s'.out = s.out ++ rep m := by
  obtain ⟨A, Q, h1, h2, h3, h4, h5, h6, h7⟩ := closeTo_spec hcl
  have hi : imp (e :: Q) = imp Q := by
    have : imp (e :: Q) = imp [e] + imp Q := imp_app [e] Q
    rw [this, imp_one, if_neg (by simpa using he)]; omega
  rw [hi, item_out] at h5
  have hc' : Calm s' := ⟨by rw [h6, (item_exp s t).1]; exact hc.1, by rw [h7, (item_exp s t).2]; exact hc.2⟩
  have hc2 := h.calm hc
  -- what closing there gives
  have fin : ∀ (s2' : St) (A2 P Q2 : List El) (e2 : El), (itemS s2' t).els = A2 ++ e2 :: P → A.map key = A2.map key → key e = key e2 → NoI (itemS s2' t).els → Calm s2' → Over Q Q2 P → Q.map key = Q2.map key → NoI Q2 → s2'.out = s2.out ++ List.replicate (imp Q) (exT 125) →
      ∃ s3, closeTo (itemS s2' t) p2 = some (e2, s3) ∧ Sim s' s3 ∧ e2.word = e.word := by
    intro s2' A2 P Q2 e2 g1 g2 g3 g4 g5 g6 g7 g8 g9
    have hn : NoI (A2 ++ e2 :: P) := g1 ▸ g4
    have he2 := key_kind g3 (hn e2 (by simp))
    rw [if_neg he] at he2
    obtain ⟨w, hw⟩ := closeTo_of (p := p2) g1 (hT.yes e2 he2.1 he2.2) (fun u hu => by
      refine ⟨?_, (pen_kind (g6.pens u hu)).1⟩
      rcases g6 u hu with ⟨k1, k2⟩ | ⟨k1, _, q, k3, k4, k5⟩
      · obtain ⟨q, k3, k4⟩ := key_mem g7 k1
        have k5 := key_kind k4 (g8 u k1)
        by_cases k6 : q.kind = 0
        · rw [if_pos k6] at k5
          exact absurd k5.1 (pen_kind k2).2.2.1
        · rw [if_neg k6] at k5
          exact hT.no q u (h3 q k3).1 (by rw [← k5.1]; exact k2) k5.1 k5.2
      · exact hT.lt q u (h3 q k3).1 k4 k5 k1)
    have hz : imp (e2 :: P) = 0 := NoI.imp hn.right
    rw [hz] at hw
    refine ⟨_, hw, ⟨by rw [h4]; exact g2, hn.left, ?_, ?_, ?_⟩, he2.2⟩
    · show (itemS s2' t).out ++ rep 0 = _
      rw [item_out, g9, h5, expl_app, expl_rep, h.out]
      exact List.append_nil _
    · show (itemS s2' t).exp = _
      rw [(item_exp s2' t).1, g5.1, hc'.1]
    · show (itemS s2' t).word = _
      rw [(item_exp s2' t).2, g5.2, hc'.2]
  by_cases hz : imp Q = 0
  · have hS := item_sim h t
    obtain ⟨A2, e2, Q2, k1, k2, k3, k4⟩ := key_split hS.els h1
    have hQ : Pens Q := by
      intro u hu
      unfold imp at hz
      rw [List.countP_eq_zero] at hz
      have h0 := hz u hu
      have := (h3 u hu).2
      unfold isWri isCtx at this
      unfold isPen
      rcases Bool.and_eq_false_iff.1 this with h5 | h5
      · have : ¬ u.kind ≤ 3 := by simpa using h5
        simp; omega
      · exact absurd (by simpa using h5) (by simpa using h0)
    have hn2 : NoI (A2 ++ e2 :: Q2) := k1 ▸ hS.no
    have hnQ : NoI Q2 := fun u hu => hn2 u (by simp [hu])
    have hQ2 := key_pens k4 hnQ hQ
    obtain ⟨s3, j1, j2, j3⟩ := fin s2 A2 Q2 Q2 e2 k1 k2 k3 hS.no hc2 (fun u hu => .inl ⟨hu, hQ2 u hu⟩) k4 hnQ (by rw [hz]; exact (List.append_nil _).symm)
    exact ⟨0, s2, e2, s3, .nil _, h.no, hc2, j1, j2, hc', j3, by rw [h5, hz]⟩
  · obtain ⟨E2, D2, k1, k2, k3⟩ := (h.item t).els
    obtain ⟨A2, e2, Q2, k4, k5, k6, k7⟩ := key_split k3 h1
    have hn : NoI (A2 ++ e2 :: (Q2 ++ D2)) := by have := h.no; rw [k1, k4] at this; simpa using this
    obtain ⟨s2', P, j1, j2, j3, j4, j5, j6, j7, _⟩ := multi (imp Q) s2 (A2 ++ [e2]) Q Q2 D2 h.no hc2 (by rw [k1, k4]; simp) k7 (fun q hq => (h3 q hq).2) k2 rfl
    obtain ⟨o', ho⟩ := rep_last (imp Q) s2.out hz
    have hit : itemS s2' t = s2' := item_last (j5.trans ho) t
    obtain ⟨s3, g1, g2, g3⟩ := fin s2' A2 P Q2 e2 (by rw [hit, j2]; simp) k5 k6 (by rw [hit]; exact j3) j4 (j7 hz) k7 (fun u hu => hn u (by simp [hu])) j5
    exact ⟨imp Q, s2', e2, s3, by rw [expl_rep]; exact j1, j3, j4, g1, g2, hc', g3, h5⟩
/-- `in` closes an implicit block of let: there a brace closes it, and `in` the pending let. -/
theorem in_sim {s s2 s' : St} {t : Tok} {e : El} (h : Sim s s2) (hc : Calm s) (hcl : closeTo (itemS s t) letE = some (e, s')) (he : e.kind = 0) :
    ∃ m s2' e2 s3, Runs s2 (explL (rep m)) s2' ∧ NoI s2'.els ∧ Calm s2' ∧ closeTo (itemS s2' t) letE = some (e2, s3) ∧ Sim s' s3 ∧ Calm s' ∧ s'.out = s.out ++ rep m := by
  obtain ⟨A, Q, h1, h2, h3, h4, h5, h6, h7⟩ := closeTo_spec hcl
  have hi : imp (e :: Q) = imp Q + 1 := by
    have : imp (e :: Q) = imp [e] + imp Q := imp_app [e] Q
    rw [this, imp_one, he]; exact Nat.add_comm 1 _
  rw [hi, item_out] at h5
  have hc' : Calm s' := ⟨by rw [h6, (item_exp s t).1]; exact hc.1, by rw [h7, (item_exp s t).2]; exact hc.2⟩
  have hc2 := h.calm hc
  have hl : tx e.word bLet = true := by
    unfold letE at h2
    rw [he] at h2
    simpa using h2
  obtain ⟨E2, D2, k1, k2, k3⟩ := (h.item t).els
  obtain ⟨A2, e2, Q2, k4, k5, k6, k7⟩ := key_split k3 h1
  have hn : NoI (A2 ++ e2 :: (Q2 ++ D2)) := by have := h.no; rw [k1, k4] at this; simpa using this
  have he2 := key_kind k6 (hn e2 (by simp))
  rw [if_pos he] at he2
  obtain ⟨s2', P, j1, j2, j3, j4, j5, j6, _, _⟩ := multi (imp Q) s2 (A2 ++ [e2]) Q Q2 D2 h.no hc2 (by rw [k1, k4]; simp) k7 (fun q hq => (h3 q hq).2) k2 rfl
  obtain ⟨s4, x, g1, g2, g3, g4, g5, g6, g7⟩ := step_close (A := A2) (e := e2) (Q := P) j3 j4 (by rw [j2]; simp) he2.1 j6
  rw [if_pos (by rw [he2.2]; exact hl)] at g2
  have hit : itemS s4 t = s4 := item_last g7 t
  obtain ⟨w, hw⟩ := closeTo_of (s := s4) (p := letE) (A := A2) (Q := []) (e := x) g2 (by unfold letE; rw [g3]; rfl) (fun u hu => absurd hu List.not_mem_nil)
  have hz : imp [x] = 0 := by rw [imp_one, g3]; rfl
  rw [hz] at hw
  refine ⟨imp Q + 1, s4, x, _, ?_, g5, g6, by rw [hit]; exact hw, ⟨by rw [h4]; exact k5, (g2 ▸ g5 : NoI (A2 ++ [x])).left, ?_, ?_, ?_⟩, hc', h5⟩
  · rw [expl_rep, List.replicate_succ']
    exact j1.app (.one g1)
  · show s4.out ++ rep 0 = _
    rw [g7, j5, h5, expl_app, expl_rep, h.out, List.replicate_succ']
    simp [rep]
  · show s4.exp = _
    rw [g6.1, hc'.1]
  · show s4.word = _
    rw [g6.2, hc'.2]
end Go.Proofs.Ythblchafjmgmbaa
namespace Go.Proofs.Ythblchafjmgmbaa
open Go.RowKit
/-- Between two tokens. -/
structure Good (s : St) : Prop where
  calm : s.exp = false → s.word = ⟨#[]⟩
  first : s.exp = true → s.word.data.toList = [] → s.els = []
  last : s.exp = true → ∀ u, s.out.getLast? = some u → spT u [59] = false
/-- A token's own work, side by side: X is what was inserted. -/
def Side (s s2 s' : St) (t : Tok) (w : ByteArray) : Prop :=
  ∃ X s2' s3, Runs s2 (explL X) s2' ∧ NoI s2'.els ∧ Calm s2' ∧ core s2' t w = some s3 ∧ Sim s' s3 ∧ s'.out = s.out ++ X ++ [t] ∧ Good s'
theorem key_not {s : St} {t : Tok} (h : t.op ≠ 9) : keyS s t = some s := by
  unfold keyS
  rw [if_neg (by simpa using h)]
theorem core_not {s : St} {t : Tok} {w : ByteArray} (h : t.op ≠ 9) : core s t w = (bracketS (itemS s t) t w).map fun s => { s with out := s.out ++ [t] } := by
  unfold core
  cases bracketS (itemS s t) t w with
  | none => rfl
  | some s3 => simp only [key_not h]
theorem core_key {s : St} {t : Tok} {w : ByteArray} (h : t.op = 9) : core s t w = (keyS (itemS s t) t).map fun s => { s with out := s.out ++ [t] } := by
  unfold core bracketS
  have h1 : (t.op == 10) = false := by rw [h]; rfl
  have h2 : (t.op == 8) = false := by rw [h]; rfl
  rw [h1, h2]
  rfl
theorem brk8 {s : St} {t : Tok} {w : ByteArray} (h : t.op = 8) : bracketS s t w =
    if tx t.text [40] then some (pushE s (elK 2))
    else if tx t.text [91] then some (pushE s (elK 3))
    else if tx t.text [123] then some (pushE s ⟨1, 0, w, false, 0, 0⟩)
    else if tx t.text [41] then closeB s (isK 2)
    else if tx t.text [93] then closeB s (isK 3)
    else if tx t.text [125] then closeB s (isK 1)
    else if tx t.text [44] then some (commaS (2 * s.els.length + 2) s)
    else if tx t.text [59] then some (markS s false)
    else some s := by
  unfold bracketS
  have h1 : (t.op == 10) = false := by rw [h]; rfl
  have h2 : (t.op == 8) = true := by rw [h]; rfl
  rw [h1, h2]
  rfl
theorem good_calm {s : St} (h : Calm s) (t : Tok) : Good { s with out := s.out ++ [t] } :=
  have hx : s.exp = true → False := fun h1 => by rw [h.1] at h1; cases h1
  ⟨fun _ => h.2, fun h1 => (hx h1).elim, fun h1 => (hx h1).elim⟩
/-- Where nothing was inserted and the token is no word that opens. -/
theorem side_same {s s2 s3 s4 : St} {t : Tok} {w : ByteArray} (h : Sim s s2) (hc : Calm s) (ht : t.auto = false) (h9 : t.op ≠ 9) (hb : bracketS (itemS s2 t) t w = some s4) (hS : Sim s3 s4) (hc3 : Calm s3) (ho : s3.out = s.out) : Side s s2 { s3 with out := s3.out ++ [t] } t w :=
  ⟨[], s2, { s4 with out := s4.out ++ [t] }, .nil _, h.no, h.calm hc, by rw [core_not h9, hb]; rfl, hS.outs ht, by
    show s3.out ++ [t] = _
    rw [ho, List.append_nil], good_calm hc3 t⟩
theorem push_calm {s : St} (h : Calm s) (e : El) : Calm (pushE s e) := h
theorem side_close {s s2 s' : St} {t : Tok} {w : ByteArray} {k : Int} (h : Sim s s2) (hc : Calm s) (ht : t.auto = false) (h9 : t.op ≠ 9) (h0 : k ≠ 0) (h7 : k ≠ 7)
    (hb : ∀ s, bracketS s t w = closeB s (isK k)) (hcl : (closeB (itemS s t) (isK k)).map (fun s => { s with out := s.out ++ [t] }) = some s') : Side s s2 s' t w := by
  unfold closeB at hcl
  cases hc1 : closeTo (itemS s t) (isK k) with
  | none => rw [hc1] at hcl; cases hcl
  | some r =>
    obtain ⟨e, s1⟩ := r
    rw [hc1] at hcl
    injection hcl with hcl
    simp only at hcl
    obtain ⟨A, Q, _, g2, _⟩ := closeTo_spec hc1
    have hek : e.kind ≠ 0 := by
      unfold isK at g2
      have : e.kind = k := by simpa using g2
      rw [this]; exact h0
    obtain ⟨m, s2', e2, s3, k1, k2, k3, k4, k5, k6, k7, k8⟩ := close_sim h hc hc1 hek (tr_k h7 g2)
    have hco : (closedS s1 e.word).out = s1.out := by unfold closedS; split <;> rfl
    have hcc : Calm (closedS s1 e.word) := by unfold closedS; split <;> exact k6
    refine ⟨rep m, s2', { closedS s3 e.word with out := (closedS s3 e.word).out ++ [t] }, k1, k2, k3, ?_, ?_, ?_, ?_⟩
    · rw [core_not h9, hb]
      unfold closeB
      rw [k4]
      show some ({ closedS s3 e2.word with out := (closedS s3 e2.word).out ++ [t] } : St) = _
      rw [k7]
    · rw [← hcl]; exact (k5.closed e.word).outs ht
    · rw [← hcl]
      show (closedS s1 e.word).out ++ [t] = _
      rw [hco, k8]
    · rw [← hcl]; exact good_calm hcc t
theorem side_brk {s s2 s' : St} {t : Tok} {w : ByteArray} (h : Sim s s2) (hc : Calm s) (ht : t.auto = false) (h8 : t.op = 8) (hr : core s t w = some s') : Side s s2 s' t w := by
  have h9 : t.op ≠ 9 := by rw [h8]; decide
  have hI := item_sim h t
  have hIc := item_calm hc t
  have hIo := item_out s t
  rw [core_not h9, brk8 h8] at hr
  by_cases a1 : tx t.text [40] = true
  · rw [if_pos a1] at hr
    injection hr with hr; subst hr
    exact side_same h hc ht h9 (by rw [brk8 h8, if_pos a1]) (hI.push rfl (by decide)) (push_calm hIc _) hIo
  rw [if_neg a1] at hr
  by_cases a2 : tx t.text [91] = true
  · rw [if_pos a2] at hr
    injection hr with hr; subst hr
    exact side_same h hc ht h9 (by rw [brk8 h8, if_neg a1, if_pos a2]) (hI.push rfl (by decide)) (push_calm hIc _) hIo
  rw [if_neg a2] at hr
  by_cases a3 : tx t.text [123] = true
  · rw [if_pos a3] at hr
    injection hr with hr; subst hr
    exact side_same h hc ht h9 (by rw [brk8 h8, if_neg a1, if_neg a2, if_pos a3]) (hI.push rfl (show (0 : Int) < 1 by decide)) (push_calm hIc _) hIo
  rw [if_neg a3] at hr
  by_cases a4 : tx t.text [41] = true
  · rw [if_pos a4] at hr
    exact side_close (k := 2) h hc ht h9 (by decide) (by decide) (fun s => by rw [brk8 h8, if_neg a1, if_neg a2, if_neg a3, if_pos a4]) hr
  rw [if_neg a4] at hr
  by_cases a5 : tx t.text [93] = true
  · rw [if_pos a5] at hr
    exact side_close (k := 3) h hc ht h9 (by decide) (by decide) (fun s => by rw [brk8 h8, if_neg a1, if_neg a2, if_neg a3, if_neg a4, if_pos a5]) hr
  rw [if_neg a5] at hr
  by_cases a6 : tx t.text [125] = true
  · rw [if_pos a6] at hr
    exact side_close (k := 1) h hc ht h9 (by decide) (by decide) (fun s => by rw [brk8 h8, if_neg a1, if_neg a2, if_neg a3, if_neg a4, if_neg a5, if_pos a6]) hr
  rw [if_neg a6] at hr
  by_cases a7 : tx t.text [44] = true
  · rw [if_pos a7] at hr
    injection hr with hr
    have hbr : ∀ u : St, NoI u.els → bracketS u t w = some u := fun u hu => by
      rw [brk8 h8, if_neg a1, if_neg a2, if_neg a3, if_neg a4, if_neg a5, if_neg a6, if_pos a7, comma_no hu]
    rcases comma_sim (2 * (itemS s t).els.length + 2) (h.item t) hIc with g | ⟨m, s2', g1, g2, g3, g4⟩
    · rw [g] at hr
      subst hr
      exact side_same h hc ht h9 (hbr _ hI.no) hI hIc hIo
    · subst hr
      have ho : s2'.out = (s2.out ++ List.replicate m (exT 125)) ++ [exT 125] := by
        rw [g2.out, g4, expl_app, expl_rep, hIo, ← h.out, List.replicate_succ']; simp
      have hit := item_last ho t
      refine ⟨rep (m + 1), s2', { s2' with out := s2'.out ++ [t] }, g1, g2.no, g2.calm g3, ?_, g2.outs ht, ?_, good_calm g3 t⟩
      · rw [core_not h9, hit, hbr _ g2.no]; rfl
      · show (commaS _ _).out ++ [t] = _
        rw [g4, hIo]
  rw [if_neg a7] at hr
  by_cases a8 : tx t.text [59] = true
  · rw [if_pos a8] at hr
    injection hr with hr; subst hr
    have hm : Calm (markS (itemS s t) false) ∧ (markS (itemS s t) false).out = (itemS s t).out := by unfold markS; split <;> exact ⟨hIc, rfl⟩
    exact side_same h hc ht h9 (by rw [brk8 h8, if_neg a1, if_neg a2, if_neg a3, if_neg a4, if_neg a5, if_neg a6, if_neg a7, if_pos a8, mark_no hI.no]) (hI.mark false) hm.1 (hm.2.trans hIo)
  rw [if_neg a8] at hr
  injection hr with hr; subst hr
  exact side_same h hc ht h9 (by rw [brk8 h8, if_neg a1, if_neg a2, if_neg a3, if_neg a4, if_neg a5, if_neg a6, if_neg a7, if_neg a8]) hI hIc hIo
theorem side_else {s s2 s' : St} {t : Tok} {w : ByteArray} (h : Sim s s2) (hc : Calm s) (ht : t.auto = false) (h8 : t.op ≠ 8) (h9 : t.op ≠ 9) (hr : core s t w = some s') : Side s s2 s' t w := by
  have hI := item_sim h t
  have hIc := item_calm hc t
  have hIo := item_out s t
  have hb : ∀ u : St, bracketS u t w = some (if (t.op == 10) && tx t.text [61] then markS u true else u) := fun u => by
    unfold bracketS
    have h2 : (t.op == 8) = false := by simpa using h8
    rw [h2]
    rfl
  rw [core_not h9, hb] at hr
  injection hr with hr
  by_cases a : ((t.op == 10) && tx t.text [61]) = true
  · rw [if_pos a] at hr
    subst hr
    have hm : Calm (markS (itemS s t) true) ∧ (markS (itemS s t) true).out = (itemS s t).out := by unfold markS; split <;> exact ⟨hIc, rfl⟩
    exact side_same h hc ht h9 (by rw [hb, if_pos a, mark_no hI.no]) (hI.mark true) hm.1 (hm.2.trans hIo)
  · rw [if_neg a] at hr
    subst hr
    exact side_same h hc ht h9 (by rw [hb, if_neg a]) hI hIc hIo
end Go.Proofs.Ythblchafjmgmbaa
namespace Go.Proofs.Ythblchafjmgmbaa
open Go.RowKit
def up (s : St) (t : Tok) : St := if opens t then { s with exp := true, word := t.text } else s
def keyR (s : St) (t : Tok) : Option St :=
  if tx t.text bCase then some (pushE s (elK 4))
  else if tx t.text bIf then some (pushE s (elK 5))
  else if tx t.text bOf then (closeTo s (isK 4)).map (·.2)
  else if tx t.text bThen then (closeTo s (isK 5)).map fun r => pushE r.2 (elK 6)
  else if tx t.text bElse then (closeTo s (isK 6)).map (·.2)
  else if tx t.text bIn then (closeTo s letE).map (·.2)
  else some s
theorem key9 {s : St} {t : Tok} (h : t.op = 9) : keyS s t = (keyR s t).map fun s => up s t := by
  unfold keyS
  rw [if_pos (by rw [h]; rfl)]
  rfl
theorem tx_ne {s : ByteArray} {l : List UInt8} (h : tx s l = true) (hl : l ≠ []) : s.data.toList ≠ [] := by
  unfold tx at h
  have : s.data.toList = l := by simpa using h
  rw [this]; exact hl
theorem opens_ne {t : Tok} (h : opens t = true) : t.text.data.toList ≠ [] := by
  unfold opens at h
  have h2 := (Bool.and_eq_true_iff.1 h).2
  rcases Bool.or_eq_true_iff.1 h2 with h2 | h2
  · rcases Bool.or_eq_true_iff.1 h2 with h2 | h2
    · rcases Bool.or_eq_true_iff.1 h2 with h2 | h2
      · exact tx_ne h2 (by decide)
      · exact tx_ne h2 (by decide)
    · exact tx_ne h2 (by decide)
  · exact tx_ne h2 (by decide)
theorem Sim.up {s s2 : St} (h : Sim s s2) (t : Tok) : Sim (up s t) (up s2 t) := by
  unfold Go.Proofs.Ythblchafjmgmbaa.up
  split
  · exact ⟨h.els, h.no, h.out, rfl, rfl⟩
  · exact h
theorem up_out (s : St) (t : Tok) : (up s t).out = s.out := by unfold up; split <;> rfl
theorem good_up {s : St} (h : Calm s) {t : Tok} (h9 : t.op = 9) : Good { up s t with out := (up s t).out ++ [t] } := by
  have hs : spT t [59] = false := by unfold spT; rw [h9]; rfl
  have hlast : ∀ u, ((up s t).out ++ [t]).getLast? = some u → spT u [59] = false := by
    intro u hu
    rw [List.getLast?_concat] at hu
    injection hu with hu; subst hu; exact hs
  refine ⟨fun h1 => ?_, fun h1 h2 => ?_, fun _ => hlast⟩
  · have h1' : (up s t).exp = false := h1
    show (up s t).word = _
    unfold up at h1' ⊢
    split at h1'
    · cases h1'
    · rename_i ho
      rw [if_neg ho]; exact h.2
  · have h1' : (up s t).exp = true := h1
    have h2' : (up s t).word.data.toList = [] := h2
    unfold up at h1' h2'
    split at h1'
    · rename_i ho
      rw [if_pos ho] at h2'
      exact absurd h2' (opens_ne ho)
    · rw [h.1] at h1'; cases h1'
theorem side_fin {s s2 s2' s3 s4 : St} {X : List Tok} {t : Tok} {w : ByteArray} (h9 : t.op = 9) (ht : t.auto = false) (hr : Runs s2 (explL X) s2') (hn : NoI s2'.els) (hc : Calm s2')
    (hk : keyR (itemS s2' t) t = some s4) (hS : Sim s3 s4) (hc3 : Calm s3) (ho : s3.out = s.out ++ X) : Side s s2 { up s3 t with out := (up s3 t).out ++ [t] } t w :=
  ⟨X, s2', { up s4 t with out := (up s4 t).out ++ [t] }, hr, hn, hc, by rw [core_key h9, key9 h9, hk]; rfl, (hS.up t).outs ht, by
    show (up s3 t).out ++ [t] = _
    rw [up_out, ho], good_up hc3 h9⟩
theorem side_kc {s s2 : St} {t : Tok} {w : ByteArray} {k : Int} {e : El} {s1 : St} (h : Sim s s2) (hc : Calm s) (h9 : t.op = 9) (ht : t.auto = false) (h0 : k ≠ 0) (h7 : k ≠ 7)
    (hcl : closeTo (itemS s t) (isK k) = some (e, s1)) (f : St → St) (hf : ∀ a b, Sim a b → Sim (f a) (f b)) (hfc : ∀ a, Calm a → Calm (f a)) (hfo : ∀ a, (f a).out = a.out)
    (hk : ∀ u : St, keyR u t = (closeTo u (isK k)).map fun r => f r.2) : Side s s2 { up (f s1) t with out := (up (f s1) t).out ++ [t] } t w := by
  obtain ⟨A, Q, _, g2, _⟩ := closeTo_spec hcl
  have hek : e.kind ≠ 0 := by
    unfold isK at g2
    have : e.kind = k := by simpa using g2
    rw [this]; exact h0
  obtain ⟨m, s2', e2, s3, k1, k2, k3, k4, k5, k6, _, k8⟩ := close_sim h hc hcl hek (tr_k h7 g2)
  exact side_fin h9 ht k1 k2 k3 (by rw [hk, k4]; rfl) (hf _ _ k5) (hfc _ k6) ((hfo _).trans k8)
theorem side_key {s s2 s' : St} {t : Tok} {w : ByteArray} (h : Sim s s2) (hc : Calm s) (ht : t.auto = false) (h9 : t.op = 9) (hr : core s t w = some s') : Side s s2 s' t w := by
  have hI := item_sim h t
  have hIc := item_calm hc t
  have hIo := item_out s t
  have same : ∀ {s3 s4 : St}, keyR (itemS s2 t) t = some s4 → Sim s3 s4 → Calm s3 → s3.out = s.out → Side s s2 { up s3 t with out := (up s3 t).out ++ [t] } t w := fun hk hS hc3 ho =>
    side_fin (X := []) h9 ht (.nil _) h.no (h.calm hc) hk hS hc3 (by rw [ho, List.append_nil])
  rw [core_key h9, key9 h9] at hr
  unfold keyR at hr
  by_cases a1 : tx t.text bCase = true
  · rw [if_pos a1] at hr
    injection hr with hr; subst hr
    exact same (by unfold keyR; rw [if_pos a1]) (hI.push rfl (by decide)) hIc hIo
  rw [if_neg a1] at hr
  by_cases a2 : tx t.text bIf = true
  · rw [if_pos a2] at hr
    injection hr with hr; subst hr
    exact same (by unfold keyR; rw [if_neg a1, if_pos a2]) (hI.push rfl (by decide)) hIc hIo
  rw [if_neg a2] at hr
  by_cases a3 : tx t.text bOf = true
  · rw [if_pos a3] at hr
    cases hcl : closeTo (itemS s t) (isK 4) with
    | none => rw [hcl] at hr; cases hr
    | some r =>
      rw [hcl] at hr
      injection hr with hr; subst hr
      exact side_kc (k := 4) h hc h9 ht (by decide) (by decide) hcl id (fun _ _ h => h) (fun _ h => h) (fun _ => rfl) (fun u => by unfold keyR; rw [if_neg a1, if_neg a2, if_pos a3]; rfl)
  rw [if_neg a3] at hr
  by_cases a4 : tx t.text bThen = true
  · rw [if_pos a4] at hr
    cases hcl : closeTo (itemS s t) (isK 5) with
    | none => rw [hcl] at hr; cases hr
    | some r =>
      rw [hcl] at hr
      injection hr with hr; subst hr
      exact side_kc (k := 5) h hc h9 ht (by decide) (by decide) hcl (fun a => pushE a (elK 6)) (fun _ _ h => h.push rfl (by decide)) (fun _ h => h) (fun _ => rfl) (fun u => by unfold keyR; rw [if_neg a1, if_neg a2, if_neg a3, if_pos a4])
  rw [if_neg a4] at hr
  by_cases a5 : tx t.text bElse = true
  · rw [if_pos a5] at hr
    cases hcl : closeTo (itemS s t) (isK 6) with
    | none => rw [hcl] at hr; cases hr
    | some r =>
      rw [hcl] at hr
      injection hr with hr; subst hr
      exact side_kc (k := 6) h hc h9 ht (by decide) (by decide) hcl id (fun _ _ h => h) (fun _ h => h) (fun _ => rfl) (fun u => by unfold keyR; rw [if_neg a1, if_neg a2, if_neg a3, if_neg a4, if_pos a5]; rfl)
  rw [if_neg a5] at hr
  by_cases a6 : tx t.text bIn = true
  · rw [if_pos a6] at hr
    cases hcl : closeTo (itemS s t) letE with
    | none => rw [hcl] at hr; cases hr
    | some r =>
      obtain ⟨e, s1⟩ := r
      rw [hcl] at hr
      injection hr with hr; subst hr
      have hk : ∀ u : St, keyR u t = (closeTo u letE).map (·.2) := fun u => by unfold keyR; rw [if_neg a1, if_neg a2, if_neg a3, if_neg a4, if_neg a5, if_pos a6]
      by_cases h0 : e.kind = 0
      · obtain ⟨m, s2', e2, s3, k1, k2, k3, k4, k5, k6, k8⟩ := in_sim h hc hcl h0
        exact side_fin h9 ht k1 k2 k3 (by rw [hk, k4]; rfl) k5 k6 k8
      · obtain ⟨A, Q, _, g2, _⟩ := closeTo_spec hcl
        obtain ⟨m, s2', e2, s3, k1, k2, k3, k4, k5, k6, _, k8⟩ := close_sim h hc hcl h0 (tr_let g2 h0)
        exact side_fin h9 ht k1 k2 k3 (by rw [hk, k4]; rfl) k5 k6 k8
  rw [if_neg a6] at hr
  injection hr with hr; subst hr
  exact same (by unfold keyR; rw [if_neg a1, if_neg a2, if_neg a3, if_neg a4, if_neg a5, if_neg a6]) hI hIc hIo
theorem side {s s2 s' : St} {t : Tok} {w : ByteArray} (h : Sim s s2) (hc : Calm s) (ht : t.auto = false) (hr : core s t w = some s') : Side s s2 s' t w := by
  by_cases h8 : t.op = 8
  · exact side_brk h hc ht h8 hr
  · by_cases h9 : t.op = 9
    · exact side_key h hc ht h9 hr
    · exact side_else h hc ht h8 h9 hr
end Go.Proofs.Ythblchafjmgmbaa
namespace Go.Proofs.Ythblchafjmgmbaa
open Go.RowKit
theorem core_w {s : St} {t : Tok} (h : spT t [123] = false) (w w' : ByteArray) : core s t w = core s t w' := by
  by_cases h8 : t.op = 8
  · have h9 : t.op ≠ 9 := by rw [h8]; decide
    have hx : tx t.text [123] = false := by unfold spT at h; rw [h8] at h; simpa using h
    rw [core_not h9, core_not h9, brk8 h8, brk8 h8, hx]
    rfl
  · unfold core bracketS
    have h2 : (t.op == 8) = false := by simpa using h8
    rw [h2]
    rfl
def rst (s : St) : St := { s with exp := false, word := ⟨#[]⟩ }
theorem rst_calm (s : St) : Calm (rst s) := ⟨rfl, rfl⟩
theorem Sim.rst {s s2 : St} (h : Sim s s2) : Sim (rst s) (rst s2) := ⟨h.els, h.no, h.out, rfl, rfl⟩
theorem tok_eq (s : St) (t : Tok) (f : Bool) : tokenS s t f =
    match (if f && !(if s.exp then beginS s t else (false, s)).1 then lineS ((rst (if s.exp then beginS s t else (false, s)).2).els.length + 1) (rst (if s.exp then beginS s t else (false, s)).2) t.col else some (rst (if s.exp then beginS s t else (false, s)).2)) with
    | none => none
    | some s2 => core s2 t s.word := rfl
theorem tok_end {s1 s2 s0 s' : St} {t : Tok} {w : ByteArray} {X0 : List Tok} {o : List Tok} (h : Sim s1 s2) (hc : Calm s1) (hY : Runs s0 (explL X0) s2) (ht : t.auto = false) (hx : spT t [123] = false ∨ w = ⟨#[]⟩) (ho : s1.out = o ++ X0) (hr : core s1 t w = some s') :
    ∃ X s2', Runs s0 (explL X) s2' ∧ Sim s' s2' ∧ Good s' ∧ s'.out = o ++ X := by
  obtain ⟨X, s2', s3, h1, h2, h3, h4, h5, h6, h7⟩ := side h hc ht hr
  have h4' : core s2' t ⟨#[]⟩ = some s3 := by
    rcases hx with hx | hx
    · rw [← h4]; exact core_w hx _ _
    · rw [← hx]; exact h4
  have he : explL [t] = [t] := by
    cases t
    simp only at ht
    subst ht; rfl
  refine ⟨X0 ++ (X ++ [t]), s3, ?_, h5, h7, by rw [h6, ho]; simp⟩
  rw [expl_app, expl_app, he]
  exact hY.app (h1.app (.one (fun f => by rw [token_calm h2 h3]; exact h4')))
theorem tok_line {s1 s2 s0 s' : St} {t : Tok} {w : ByteArray} {f : Bool} {X0 o : List Tok} (h : Sim s1 s2) (hc : Calm s1) (hY : Runs s0 (explL X0) s2) (ht : t.auto = false) (hx : spT t [123] = false ∨ w = ⟨#[]⟩) (ho : s1.out = o ++ X0)
    (hr : (match (if f then lineS (s1.els.length + 1) s1 t.col else some s1) with | none => none | some s2 => core s2 t w) = some s') :
    ∃ X s2', Runs s0 (explL X) s2' ∧ Sim s' s2' ∧ Good s' ∧ s'.out = o ++ X := by
  cases f with
  | false => exact tok_end h hc hY ht hx ho hr
  | true =>
    cases hl : lineS (s1.els.length + 1) s1 t.col with
    | none => simp only [if_true, hl] at hr; cases hr
    | some s3 =>
      simp only [if_true, hl] at hr
      obtain ⟨X, s4, h1, h2, h3, h4⟩ := line_sim _ h hc hl
      exact tok_end h2 h3 (by rw [expl_app]; exact hY.app h1) ht hx (by rw [h4, ho, List.append_assoc]) hr
theorem brace_ne {t : Tok} (h : spT t [123] = true) : t.op = 8 ∧ tx t.text [123] = true ∧ tx t.text [40] = false ∧ tx t.text [91] = false := by
  unfold spT at h
  have h1 := Bool.and_eq_true_iff.1 h
  have h2 : t.text.data.toList = [123] := by have := h1.2; unfold tx at this; simpa using this
  refine ⟨by simpa using h1.1, h1.2, ?_, ?_⟩
  · unfold tx; rw [h2]; rfl
  · unfold tx; rw [h2]; rfl
theorem core_brace {s s' : St} {t : Tok} {w : ByteArray} (h : spT t [123] = true) (hr : core s t w = some s') : s'.out = s.out ++ [t] := by
  obtain ⟨h8, h1, h2, h3⟩ := brace_ne h
  have h9 : t.op ≠ 9 := by rw [h8]; decide
  rw [core_not h9, brk8 h8, h1, h2, h3] at hr
  injection hr with hr
  rw [← hr]
  show (itemS s t).out ++ [t] = _
  rw [item_out]
theorem core_module {s s' : St} {t : Tok} {w : ByteArray} (h : wdT t bModule = true) (hr : core s t w = some s') : s'.out = s.out ++ [t] := by
  unfold wdT at h
  have h1 := Bool.and_eq_true_iff.1 h
  have h9 : t.op = 9 := by simpa using h1.1
  have h2 : t.text.data.toList = bModule := by have := h1.2; unfold tx at this; simpa using this
  have n : ∀ l : List UInt8, l ≠ bModule → tx t.text l = false := by
    intro l hl
    unfold tx
    rw [h2]
    simpa using fun hh => hl hh.symm
  rw [core_key h9, key9 h9] at hr
  unfold keyR at hr
  rw [n bCase (by decide), n bIf (by decide), n bOf (by decide), n bThen (by decide), n bElse (by decide), n bIn (by decide)] at hr
  injection hr with hr
  rw [← hr]
  show (up (itemS s t) t).out ++ [t] = _
  rw [up_out, item_out]
/-- A token that nothing precedes where a block is awaited. -/
theorem tok_bare {s s2 s' : St} {t : Tok} (h : Sim s s2) (ht : t.auto = false) (hx : spT t [123] = true ∨ (s.word.data.toList.isEmpty && wdT t bModule) = true) (hr : core (rst s) t s.word = some s') (ho : s'.out = s.out ++ [t]) :
    ∃ X s2', Runs s2 (explL X) s2' ∧ Sim s' s2' ∧ Good s' ∧ s'.out = s.out ++ X := by
  obtain ⟨X, s2', s3, h1, h2, h3, h4, h5, h6, h7⟩ := side h.rst (rst_calm s) ht hr
  have hX : X = [] := by
    rw [ho] at h6
    have := congrArg List.length h6
    have h8 : (rst s).out = s.out := rfl
    rw [h8] at this
    simp at this
    exact this
  rw [hX] at h1
  have := h1.nil_eq
  subst this
  have he : explL [t] = [t] := by
    cases t
    simp only at ht
    subst ht; rfl
  refine ⟨[t], s3, ?_, h5, h7, ho⟩
  rw [he]
  refine .one (fun f => ?_)
  rw [token_no h.no t f (fun _ => by rw [h.word]; exact hx), h.word]
  exact h4
theorem tok_sim {s s2 s' : St} {t : Tok} {f : Bool} (h : Sim s s2) (hg : Good s) (ht : t.auto = false) (hr : tokenS s t f = some s') :
    ∃ X s2', Runs s2 (explL X) s2' ∧ Sim s' s2' ∧ Good s' ∧ s'.out = s.out ++ X := by
  rw [tok_eq] at hr
  cases he : s.exp with
  | false =>
    rw [he] at hr
    simp only [Bool.false_eq_true, if_false, Bool.not_false, Bool.and_true] at hr
    have hc : Calm s := ⟨he, hg.calm he⟩
    have hrs : rst s = s := calm_eq hc
    rw [hrs] at hr
    exact tok_line (X0 := []) h hc (.nil _) ht (.inr hc.2) (List.append_nil _).symm hr
  | true =>
    rw [he] at hr
    simp only [if_true] at hr
    unfold beginS at hr
    by_cases hb : spT t [123] = true
    · rw [if_pos hb] at hr
      simp only [Bool.not_true, Bool.and_false, Bool.false_eq_true, if_false] at hr
      exact tok_bare h ht (.inl hb) hr (core_brace (s := rst s) hb hr)
    rw [if_neg hb] at hr
    have hb' : spT t [123] = false := by simpa using hb
    by_cases hm : (s.word.data.toList.isEmpty && wdT t bModule) = true
    · rw [if_pos hm] at hr
      have hm2 := Bool.and_eq_true_iff.1 hm
      have hels : s.els = [] := hg.first he (by simpa using hm2.1)
      have hline : ∀ b : Bool, (if b = true then lineS ((rst s).els.length + 1) (rst s) t.col else some (rst s)) = some (rst s) := by
        intro b
        cases b with
        | false => rfl
        | true => exact line_no (s := rst s) (by show NoI s.els; rw [hels]; exact fun e he => absurd he List.not_mem_nil) _ _
      simp only at hr
      rw [hline] at hr
      have hr' : core (rst s) t s.word = some s' := hr
      exact tok_bare h ht (.inr hm) hr' (core_module (s := rst s) hm2.2 hr')
    rw [if_neg hm] at hr
    -- a brace is inserted
    have hit : itemS { s2 with exp := false, word := ⟨#[]⟩ } (exT 123) = { s2 with exp := false, word := ⟨#[]⟩ } := by
      have hl : s2.out.getLast? = s.out.getLast?.map xp := by rw [h.out]; exact List.getLast?_map ..
      have hg3 := hg.last he
      unfold itemS
      simp only
      rw [hl]
      cases hgl : s.out.getLast? with
      | none => rfl
      | some u =>
        have hu := hg3 u hgl
        have hu' : spT (xp u) [59] = false := hu
        simp only [Option.map_some, hu', Bool.false_and, Bool.false_eq_true, if_false]
    have hop := step_open h.no hit
    by_cases hcol : begC s < t.col
    · rw [if_pos hcol] at hr
      simp only [Bool.not_true, Bool.and_false, Bool.false_eq_true, if_false] at hr
      have hS : Sim (rst (pushE (insS s 123) ⟨0, t.col, s.word, false, 0, 0⟩)) { pushE { s2 with exp := false, word := ⟨#[]⟩ } ⟨1, 0, s2.word, false, 0, 0⟩ with out := s2.out ++ [exT 123] } := by
        have h1 : Sim (rst s) (rst s2) := h.rst
        have h2 := h1.push (e := ⟨0, t.col, s.word, false, 0, 0⟩) (e2 := ⟨1, 0, s2.word, false, 0, 0⟩) (by unfold key; rw [h.word]; rfl) (show (0 : Int) < 1 by decide)
        refine ⟨h2.els, h2.no, ?_, rfl, rfl⟩
        show s2.out ++ [exT 123] = explL (s.out ++ [insT 123])
        rw [expl_app, h.out]; rfl
      exact tok_end (X0 := [insT 123]) hS (rst_calm _) (.one hop) ht (.inl hb') rfl hr
    · rw [if_neg hcol] at hr
      simp only [Bool.not_false, Bool.and_true] at hr
      let s3 : St := { pushE { s2 with exp := false, word := ⟨#[]⟩ } ⟨1, 0, s2.word, false, 0, 0⟩ with out := s2.out ++ [exT 123] }
      have hn3 : NoI s3.els := by
        intro u hu
        rcases List.mem_append.1 hu with hu | hu
        · exact h.no u hu
        · rw [List.mem_singleton] at hu; subst hu; exact (show (0 : Int) < 1 by decide)
      obtain ⟨s4, x, g1, g2, g3, g4, g5, g6, g7⟩ := step_close (s := s3) (A := s2.els) (Q := []) hn3 ⟨rfl, rfl⟩ rfl rfl (fun u hu => absurd hu List.not_mem_nil)
      have hco : ∀ (u : St), (closedS u s.word).out = u.out ∧ (closedS u s.word).els.map key = u.els.map key ++ (if tx s.word bLet then [(7, ⟨#[]⟩)] else []) := by
        intro u
        unfold closedS
        split
        · refine ⟨rfl, ?_⟩
          show (u.els ++ [_]).map key = _
          rw [List.map_append]; rfl
        · exact ⟨rfl, (List.append_nil _).symm⟩
      have hS : Sim (rst (closedS (insS (insS s 123) 125) s.word)) s4 := by
        refine ⟨?_, g5, ?_, g6.1, g6.2⟩
        · show (closedS (insS (insS s 123) 125) s.word).els.map key = _
          rw [(hco _).2, g2]
          show s.els.map key ++ _ = _
          rw [List.map_append, h.els]
          congr 1
          show _ = List.map key (if tx s2.word bLet = true then [x] else [])
          rw [h.word]
          split
          · show _ = [key x]
            unfold key
            rw [g3, g4]; rfl
          · rfl
        · show _ = explL (closedS (insS (insS s 123) 125) s.word).out
          rw [g7, (hco _).1]
          show (s2.out ++ [exT 123]) ++ [exT 125] = explL ((s.out ++ [insT 123]) ++ [insT 125])
          rw [expl_app, expl_app, h.out]; rfl
      exact tok_line (X0 := [insT 123, insT 125]) hS (rst_calm _) (Runs.app (.one hop) (.one g1)) ht (.inl hb') (by
        show (closedS (insS (insS s 123) 125) s.word).out = _
        rw [(hco _).1]
        show (s.out ++ [insT 123]) ++ [insT 125] = _
        rw [List.append_assoc]; rfl) hr
/-- How many blocks can be closed before a parenthesis or a bracket, from the top on. -/
def av : List El → Nat
  | [] => 0
  | e :: r => if (e.kind == 2) || (e.kind == 3) then 0 else (if e.kind == 1 then 1 else 0) + av r
theorem endE_in (R : List El) : ∀ {out l : List Tok}, endE R true out = some l → l = out := by
  induction R with
  | nil => intro out l h; injection h with h; exact h.symm
  | cons e R ih =>
    intro out l h
    unfold endE at h
    split at h
    · exact ih h
    · split at h
      · cases h
      · exact ih h
theorem endE_av (R : List El) : ∀ {R2 : List El} {out l : List Tok}, R.map key = R2.map key → NoI R2 → endE R false out = some l → ∃ k, l = out ++ rep k ∧ k ≤ av R2 := by
  induction R with
  | nil => intro R2 out l _ _ h; injection h with h; exact ⟨0, by rw [← h]; exact (List.append_nil _).symm, Nat.zero_le _⟩
  | cons e R ih =>
    intro R2 out l hk hn h
    cases R2 with
    | nil => cases hk
    | cons e2 R2 =>
      rw [List.map_cons, List.map_cons, List.cons.injEq] at hk
      have he := (key_kind hk.1 (hn e2 (List.mem_cons_self ..))).1
      have hn' : NoI R2 := fun u hu => hn u (List.mem_cons_of_mem _ hu)
      unfold endE at h
      by_cases h2 : ((e.kind == 2) || (e.kind == 3)) = true
      · rw [if_pos h2] at h
        exact ⟨0, by rw [endE_in R h]; exact (List.append_nil _).symm, Nat.zero_le _⟩
      · rw [if_neg h2] at h
        by_cases h0 : e.kind = 0
        · rw [if_pos (by rw [h0]; rfl)] at h
          simp only [Bool.false_eq_true, if_false] at h
          obtain ⟨k, g1, g2⟩ := ih hk.2 hn' h
          rw [if_pos h0] at he
          refine ⟨k + 1, ?_, ?_⟩
          · rw [g1]
            unfold rep
            rw [List.replicate_succ]; simp
          · unfold av
            rw [he]
            show k + 1 ≤ 1 + av R2
            omega
        · rw [if_neg (by simpa using h0)] at h
          obtain ⟨k, g1, g2⟩ := ih hk.2 hn' h
          rw [if_neg h0] at he
          refine ⟨k, g1, ?_⟩
          unfold av
          rw [he, if_neg h2]
          omega
theorem endE_no {R : List El} (h : NoI R) : ∀ (b : Bool) (out : List Tok), endE R b out = some out := by
  induction R with
  | nil => intro b out; rfl
  | cons e R ih =>
    intro b out
    have h0 := h e (List.mem_cons_self ..)
    have hR : NoI R := fun u hu => h u (List.mem_cons_of_mem _ hu)
    unfold endE
    split
    · exact ih hR true out
    · rw [if_neg (by simp; omega)]
      exact ih hR b out
theorem av_split (R : List El) : ∀ {k : Nat}, NoI R → k + 1 ≤ av R → ∃ B e C, R = B ++ e :: C ∧ e.kind = 1 ∧ Pens B ∧ k ≤ av C := by
  induction R with
  | nil => intro k _ h; exact absurd h (Nat.not_succ_le_zero _)
  | cons e R ih =>
    intro k hn h
    unfold av at h
    split at h
    · exact absurd h (Nat.not_succ_le_zero _)
    · rename_i h2
      by_cases h1 : e.kind = 1
      · rw [if_pos (by rw [h1]; rfl)] at h
        exact ⟨[], e, R, rfl, h1, fun u hu => absurd hu List.not_mem_nil, by omega⟩
      · rw [if_neg (by simpa using h1)] at h
        obtain ⟨B, e1, C, g1, g2, g3, g4⟩ := ih (fun u hu => hn u (List.mem_cons_of_mem _ hu)) (by omega : k + 1 ≤ av R)
        refine ⟨e :: B, e1, C, by rw [g1]; rfl, g2, fun u hu => ?_, g4⟩
        rcases List.mem_cons.1 hu with rfl | hu
        · have h0 := hn u (List.mem_cons_self ..)
          have h2' : ¬ u.kind = 2 ∧ ¬ u.kind = 3 := by simpa using h2
          unfold isPen
          simp; omega
        · exact g3 u hu
theorem close_runs (k : Nat) : ∀ {s : St}, NoI s.els → Calm s → k ≤ av s.els.reverse → ∃ s', Runs s (List.replicate k (exT 125)) s' ∧ NoI s'.els ∧ Calm s' ∧ s'.out = s.out ++ List.replicate k (exT 125) := by
  induction k with
  | zero => intro s hn hc _; exact ⟨s, .nil _, hn, hc, (List.append_nil _).symm⟩
  | succ k ih =>
    intro s hn hc h
    obtain ⟨B, e, C, h1, h2, h3, h4⟩ := av_split _ (fun u hu => hn u (List.mem_reverse.1 hu)) h
    have hs : s.els = C.reverse ++ e :: B.reverse := by
      have := congrArg List.reverse h1
      rw [List.reverse_reverse] at this
      rw [this]; simp
    obtain ⟨s1, x, g1, g2, g3, g4, g5, g6, g7⟩ := step_close hn hc hs h2 (fun u hu => h3 u (List.mem_reverse.1 hu))
    have hav : k ≤ av s1.els.reverse := by
      rw [g2]
      split
      · rw [List.reverse_append, List.reverse_reverse]
        show k ≤ av (x :: C)
        unfold av
        rw [g3]
        show k ≤ 0 + av C
        omega
      · rw [List.append_nil, List.reverse_reverse]; exact h4
    obtain ⟨s2, j1, j2, j3, j4⟩ := ih g5 g6 hav
    exact ⟨s2, by rw [List.replicate_succ]; exact .cons g1 j1, j2, j3, by rw [j4, g7, List.replicate_succ]; simp⟩
theorem end_sim {s s2 : St} {r : List Tok} (h : Sim s s2) (hg : Good s) (hr : endS s = some r) :
    ∃ X s2', Runs s2 (explL X) s2' ∧ NoI s2'.els ∧ Calm s2' ∧ s2'.out = explL r ∧ r = s.out ++ X := by
  unfold endS at hr
  have hrev : s.els.reverse.map key = s2.els.reverse.map key := by rw [List.map_reverse, List.map_reverse, h.els]
  have hnr : NoI s2.els.reverse := fun u hu => h.no u (List.mem_reverse.1 hu)
  obtain ⟨k, h1, h2⟩ := endE_av _ hrev hnr hr
  cases he : s.exp with
  | false =>
    have hc : Calm s := ⟨he, hg.calm he⟩
    obtain ⟨s2', g1, g2, g3, g4⟩ := close_runs k h.no (h.calm hc) h2
    refine ⟨rep k, s2', by rw [expl_rep]; exact g1, g2, g3, ?_, ?_⟩
    · rw [g4, h1, he, if_neg Bool.false_ne_true, expl_app, expl_rep, h.out]
    · rw [h1, he, if_neg Bool.false_ne_true]
  | true =>
    have hit : itemS { s2 with exp := false, word := ⟨#[]⟩ } (exT 123) = { s2 with exp := false, word := ⟨#[]⟩ } := by
      have hl : s2.out.getLast? = s.out.getLast?.map xp := by rw [h.out]; exact List.getLast?_map ..
      have hg3 := hg.last he
      unfold itemS
      simp only
      rw [hl]
      cases hgl : s.out.getLast? with
      | none => rfl
      | some u =>
        have hu := hg3 u hgl
        have hu' : spT (xp u) [59] = false := hu
        simp only [Option.map_some, hu', Bool.false_and, Bool.false_eq_true, if_false]
    have hop := step_open h.no hit
    let s3 : St := { pushE { s2 with exp := false, word := ⟨#[]⟩ } ⟨1, 0, s2.word, false, 0, 0⟩ with out := s2.out ++ [exT 123] }
    have hn3 : NoI s3.els := by
      intro u hu
      rcases List.mem_append.1 hu with hu | hu
      · exact h.no u hu
      · rw [List.mem_singleton] at hu; subst hu; exact (show (0 : Int) < 1 by decide)
    obtain ⟨s4, x, g1, g2, g3, g4, g5, g6, g7⟩ := step_close (s := s3) (A := s2.els) (Q := []) hn3 ⟨rfl, rfl⟩ rfl rfl (fun u hu => absurd hu List.not_mem_nil)
    have g2' : s4.els = s2.els ++ (if tx s2.word bLet then [x] else []) := g2
    have hav : k ≤ av s4.els.reverse := by
      rw [g2']
      split
      · rw [List.reverse_append]
        show k ≤ av (x :: s2.els.reverse)
        unfold av
        rw [g3]
        show k ≤ 0 + av s2.els.reverse
        omega
      · rw [List.append_nil]; exact h2
    obtain ⟨s5, j1, j2, j3, j4⟩ := close_runs k g5 g6 hav
    refine ⟨insT 123 :: insT 125 :: rep k, s5, ?_, j2, j3, ?_, ?_⟩
    · have := (Runs.one hop).app ((Runs.one g1).app j1)
      rw [← expl_rep] at this
      exact this
    · rw [j4, g7, h1, he, if_pos rfl, expl_app, expl_rep, expl_app, ← h.out]
      show ((s2.out ++ [exT 123]) ++ [exT 125]) ++ _ = (s2.out ++ [exT 123, exT 125]) ++ _
      simp
    · rw [h1, he, if_pos rfl, List.append_assoc]; rfl
theorem ins_sim (l : List Tok) : ∀ {last : Option Tok} {s s2 : St} {r : List Tok}, Sim s s2 → Good s → (∀ t ∈ l, t.auto = false) → insF l last s = .ok r →
    ∃ X s2', Runs s2 (explL X) s2' ∧ NoI s2'.els ∧ Calm s2' ∧ s2'.out = explL r ∧ r.length ≤ 16384 ∧ r = s.out ++ X := by
  induction l with
  | nil =>
    intro last s s2 r h hg _ hr
    unfold insF at hr
    cases he : endS s with
    | none =>
      rw [he] at hr
      cases last with
      | none => cases hr
      | some p => cases hr
    | some q =>
      rw [he] at hr
      simp only at hr
      split at hr
      · cases hr
      · rename_i hlen
        injection hr with hr
        subst hr
        obtain ⟨Y, s2', h1, h2, h3, h4, h5⟩ := end_sim h hg he
        exact ⟨Y, s2', h1, h2, h3, h4, by omega, h5⟩
  | cons t l ih =>
    intro last s s2 r h hg ha hr
    unfold insF at hr
    split at hr
    · cases hr
    · rename_i s1 hs
      obtain ⟨Y, s3, h1, h2, h3, h4⟩ := tok_sim h hg (ha t (List.mem_cons_self ..)) hs
      obtain ⟨Z, s4, g1, g2, g3, g4, g5, g6⟩ := ih h2 h3 (fun u hu => ha u (List.mem_cons_of_mem _ hu)) hr
      exact ⟨Y ++ Z, s4, by rw [expl_app]; exact h1.app g1, g2, g3, g4, g5, by rw [g6, h4, List.append_assoc]⟩
theorem runs_ins {s s' : St} {l : List Tok} (h : Runs s l s') : ∀ (last : Option Tok) {r : List Tok}, NoI s'.els → Calm s' → s'.out = r → r.length ≤ 16384 → insF l last s = .ok r := by
  induction h with
  | nil s =>
    intro last r hn hc ho hl
    unfold insF endS
    rw [hc.1, if_neg Bool.false_ne_true, endE_no (fun u hu => hn u (List.mem_reverse.1 hu)), ho]
    simp only
    rw [if_neg (by omega)]
  | cons h1 _ ih =>
    intro last r hn hc ho hl
    unfold insF
    rw [h1]
    exact ih _ hn hc ho hl
/-- Insert of what Explicit makes of a result gives the same tokens. -/
theorem insP_expl {l r : List Tok} (h : insP l = .ok r) : insP (explL r) = .ok (explL r) := by
  unfold insP at h
  split at h
  · cases h
  · rename_i ha
    have ha' : ∀ t ∈ l, t.auto = false := by
      intro t ht
      cases hx : t.auto with
      | false => rfl
      | true => exact absurd (List.any_eq_true.2 ⟨t, ht, hx⟩) ha
    let s0 : St := ⟨[], 0, [], true, ⟨#[]⟩⟩
    have h0 : Sim s0 s0 := ⟨rfl, fun e he => absurd he List.not_mem_nil, rfl, rfl, rfl⟩
    have hg : Good s0 := ⟨fun _ => rfl, fun _ _ => rfl, fun _ u hu => by cases hu⟩
    obtain ⟨X, s1, h1, h2, h3, h4, h5, h6⟩ := ins_sim l h0 hg ha' h
    have hX : X = r := h6.symm
    subst hX
    have hlen : (explL X).length ≤ 16384 := by unfold explL; rw [List.length_map]; exact h5
    unfold insP
    rw [if_neg (by
      intro hh
      obtain ⟨t, ht, hx⟩ := List.any_eq_true.1 hh
      unfold explL at ht
      obtain ⟨u, _, hu⟩ := List.mem_map.1 ht
      rw [← hu] at hx
      cases hx)]
    exact runs_ins h1 none h2 h3 h4 hlen
end Go.Proofs.Ythblchafjmgmbaa
namespace Go.Proofs.Ythblchafjmgmbaa
open Go.RowKit
theorem Rl.some {s : St} {m : RM} (h : Rl s m) : Two (some s) (some m) := .inr ⟨s, m, rfl, rfl, h⟩
theorem specials_rel {s : St} {m : RM} (h : Rl s m) {t : Tok} (h8 : t.op = 8) (w : ByteArray) : Two (bracketS s t w) (rSpecials m t w) := by
  have hlen : m.stack.length = s.els.length := by rw [h.stack, List.length_map]
  rw [brk8 h8]
  unfold rSpecials
  rw [hlen]
  by_cases a1 : tx t.text [40] = true
  · rw [if_pos a1, if_pos a1]; exact (h.push (by decide) rfl (fun _ => rfl)).some
  rw [if_neg a1, if_neg a1]
  by_cases a2 : tx t.text [91] = true
  · rw [if_pos a2, if_pos a2]; exact (h.push (by decide) rfl (fun _ => rfl)).some
  rw [if_neg a2, if_neg a2]
  by_cases a3 : tx t.text [123] = true
  · rw [if_pos a3, if_pos a3]
    exact (h.push (e := ⟨1, 0, w, false, 0, 0⟩) (show (0 : Int) ≤ 1 ∧ (1 : Int) ≤ 7 by decide) rfl (fun hh => absurd hh (show ¬ ((1 : Int) = 2 ∨ (1 : Int) = 3) by decide))).some
  rw [if_neg a3, if_neg a3]
  by_cases a4 : tx t.text [41] = true
  · rw [if_pos a4, if_pos a4]; exact closes_rel h (k := 2) (by decide)
  rw [if_neg a4, if_neg a4]
  by_cases a5 : tx t.text [93] = true
  · rw [if_pos a5, if_pos a5]; exact closes_rel h (k := 3) (by decide)
  rw [if_neg a5, if_neg a5]
  by_cases a6 : tx t.text [125] = true
  · rw [if_pos a6, if_pos a6]; exact closes_rel h (k := 1) (by decide)
  rw [if_neg a6, if_neg a6]
  by_cases a7 : tx t.text [44] = true
  · rw [if_pos a7, if_pos a7]; exact (comma_rel _ h).some
  rw [if_neg a7, if_neg a7]
  by_cases a8 : tx t.text [59] = true
  · rw [if_pos a8, if_pos a8]; exact (h.mark false).some
  rw [if_neg a8, if_neg a8]
  exact h.some
def rWordIn (m : RM) (t : Tok) : Option RM :=
  if tx t.text bCase then some (rPush m ⟨5, 0, bCaseA, false⟩)
  else if tx t.text bIf then some (rPush m ⟨5, 0, bIfA, false⟩)
  else if tx t.text bOf then rSeek m bCase
  else if tx t.text bThen then rSeek m bIf
  else if tx t.text bElse then rSeek m bThen
  else if tx t.text bIn then rSeek m bLet
  else some m
theorem sought_rel {s : St} {m : RM} (h : Rl s m) {p : El → Bool} {w : List UInt8} (hw : ∀ e ∈ s.els, rSought w (toR e) = p e) (hb : (w == bIf) = false) : Two ((closeTo s p).map (·.2)) (rSeek m w) := by
  rcases seek_rel h hw with ⟨h1, h2⟩ | ⟨e, s', m1, h1, h2, h3⟩
  · rw [h1, h2]; exact .inl ⟨rfl, rfl⟩
  · rw [h1, h2, hb, if_neg Bool.false_ne_true]; exact h3.some
theorem words_rel {s : St} {m : RM} (h : Rl s m) (t : Tok) : Two (keyR s t) (rWordIn m t) := by
  unfold keyR rWordIn
  by_cases a1 : tx t.text bCase = true
  · rw [if_pos a1, if_pos a1]; exact (h.push (by decide) rfl (fun _ => rfl)).some
  rw [if_neg a1, if_neg a1]
  by_cases a2 : tx t.text bIf = true
  · rw [if_pos a2, if_pos a2]; exact (h.push (by decide) rfl (fun _ => rfl)).some
  rw [if_neg a2, if_neg a2]
  by_cases a3 : tx t.text bOf = true
  · rw [if_pos a3, if_pos a3]; exact sought_rel h (fun e he => (sought_k (h.kd e he)).1) (by decide)
  rw [if_neg a3, if_neg a3]
  by_cases a4 : tx t.text bThen = true
  · rw [if_pos a4, if_pos a4]
    rcases seek_rel h (p := isK 5) (w := bIf) (fun e he => (sought_k (h.kd e he)).2.1) with ⟨h1, h2⟩ | ⟨e, s', m1, h1, h2, h3⟩
    · rw [h1, h2]; exact .inl ⟨rfl, rfl⟩
    · rw [h1, h2, if_pos (by decide)]; exact (h3.push (e := elK 6) (by decide) rfl (fun _ => rfl)).some
  rw [if_neg a4, if_neg a4]
  by_cases a5 : tx t.text bElse = true
  · rw [if_pos a5, if_pos a5]; exact sought_rel h (fun e he => (sought_k (h.kd e he)).2.2.1) (by decide)
  rw [if_neg a5, if_neg a5]
  by_cases a6 : tx t.text bIn = true
  · rw [if_pos a6, if_pos a6]; exact sought_rel h (fun e he => (sought_k (h.kd e he)).2.2.2) (by decide)
  rw [if_neg a6, if_neg a6]
  exact h.some
theorem Rl.tok {s : St} {m : RM} (h : Rl s m) (t : Tok) : Rl { s with out := s.out ++ [t] } { m with out := m.out ++ [t] } :=
  ⟨h.stack, by show m.out ++ _ = s.out ++ _; rw [h.out], h.wf, h.kd, h.wr, h.wd, h.ex⟩
theorem Rl.up {s : St} {m : RM} (h : Rl s m) (t : Tok) : Rl (up s t) (if opens t then { m with expects := true, word := t.text } else m) := by
  unfold Go.Proofs.Ythblchafjmgmbaa.up
  split
  · exact ⟨h.stack, h.out, h.wf, h.kd, h.wr, h.wd, rfl, fun hh => absurd (show true = false from hh) (by decide), fun _ => rfl⟩
  · exact h
/-- The work of a token. -/
def rCore (m1 : RM) (t : Tok) (w : ByteArray) : Option RM :=
  let m2 := rItem m1 t
  let r : Option RM := if t.op == 8 then rSpecials m2 t w else if t.op == 9 then rWords m2 t else if (t.op == 10) && tx t.text [61] then some (rMark m2 true) else some m2
  r.map fun m => { m with out := m.out ++ [t] }
theorem core_rel {s : St} {m : RM} (h : Rl s m) (t : Tok) (w : ByteArray) : Two (core s t w) (rCore m t w) := by
  have hI := h.item t
  unfold rCore
  by_cases h8 : t.op = 8
  · have h9 : t.op ≠ 9 := by rw [h8]; decide
    rw [core_not h9]
    have e8 : (t.op == 8) = true := by rw [h8]; rfl
    simp only [e8, if_true]
    rcases specials_rel hI h8 w with ⟨h1, h2⟩ | ⟨s', m', h1, h2, h3⟩
    · rw [h1, h2]; exact .inl ⟨rfl, rfl⟩
    · rw [h1, h2]; exact (h3.tok t).some
  · have e8 : (t.op == 8) = false := by simpa using h8
    by_cases h9 : t.op = 9
    · rw [core_key h9, key9 h9]
      have e9 : (t.op == 9) = true := by rw [h9]; rfl
      simp only [e8, e9, if_true, Bool.false_eq_true, if_false]
      have hk : rWords (rItem m t) t = (rWordIn (rItem m t) t).map fun m => if opens t then { m with expects := true, word := t.text } else m := rfl
      rw [hk]
      rcases words_rel hI t with ⟨h1, h2⟩ | ⟨s', m', h1, h2, h3⟩
      · rw [h1, h2]; exact .inl ⟨rfl, rfl⟩
      · rw [h1, h2]; exact ((h3.up t).tok t).some
    · have e9 : (t.op == 9) = false := by simpa using h9
      rw [core_not h9]
      have hb : bracketS (itemS s t) t w = some (if (t.op == 10) && tx t.text [61] then markS (itemS s t) true else itemS s t) := by
        unfold bracketS
        rw [e8]
        rfl
      rw [hb]
      simp only [e8, e9, Bool.false_eq_true, if_false]
      by_cases a : ((t.op == 10) && tx t.text [61]) = true
      · rw [if_pos a, if_pos a]; exact ((hI.mark true).tok t).some
      · rw [if_neg a, if_neg a]; exact (hI.tok t).some
theorem step_rel {s : St} {m : RM} (h : Rl s m) (t : Tok) (f : Bool) : Two (tokenS s t f) (rStep m t f) := by
  obtain ⟨e1, e2, e3⟩ := h.ex
  have hw : (if m.expects then m.word else ⟨#[]⟩) = s.word := by
    rw [e1]
    cases hx : s.exp with
    | true => exact e3 hx
    | false => exact (e2 hx).symm
  have hb : (if s.exp then beginS s t else (false, s)).1 = (rOpen m t).1 ∧ Rl (rst (if s.exp then beginS s t else (false, s)).2) (rOpen m t).2 := by
    cases hx : s.exp with
    | true => exact begin_rel h hx t
    | false =>
      have ho : rOpen m t = (false, m) := by unfold rOpen; rw [e1, hx]; rfl
      rw [ho]
      refine ⟨rfl, ?_⟩
      have : rst s = s := calm_eq ⟨hx, e2 hx⟩
      show Rl (rst s) m
      rw [this]; exact h
  have hr : rStep m t f = match (if !(rOpen m t).1 && f then rLines ((rOpen m t).2.stack.length + 1) (rOpen m t).2 t.col else some (rOpen m t).2) with
      | none => none
      | some m1 => rCore m1 t (if m.expects then m.word else ⟨#[]⟩) := rfl
  rw [hr, tok_eq, hw]
  generalize hB : (if s.exp then beginS s t else (false, s)) = b at hb ⊢
  obtain ⟨b1, b2⟩ := hb
  rw [← b1, Bool.and_comm f]
  have hlen : (rOpen m t).2.stack.length = (rst b.2).els.length := by rw [b2.stack, List.length_map]
  rw [hlen]
  cases hc : (!b.1 && f) with
  | false => exact core_rel b2 t s.word
  | true =>
    simp only [if_true]
    rcases line_rel ((rst b.2).els.length + 1) (col := t.col) b2 with ⟨h1, h2⟩ | ⟨s', m', h1, h2, h3⟩
    · rw [h1, h2]; exact .inl ⟨rfl, rfl⟩
    · rw [h1, h2]; exact core_rel h3 t s.word
end Go.Proofs.Ythblchafjmgmbaa
namespace Go.Proofs.Ythblchafjmgmbaa
open Go.RowKit
def parK (e : El) : Bool := (e.kind == 2) || (e.kind == 3)
/-- From the top on: an implicit block below a parenthesis or a bracket. -/
def badR : List El → Bool → Bool
  | [], _ => false
  | e :: r, b => if parK e then badR r true else ((e.kind == 0) && b) || badR r b
theorem par_imp {e : El} (h : parK e = true) : (e.kind == 0) = false := by
  unfold parK at h
  rcases Bool.or_eq_true_iff.1 h with h | h
  · have : e.kind = 2 := by simpa using h
    rw [this]; rfl
  · have : e.kind = 3 := by simpa using h
    rw [this]; rfl
theorem imp_cons (e : El) (r : List El) : imp (e :: r) = (if e.kind == 0 then 1 else 0) + imp r := by
  have : imp (e :: r) = imp [e] + imp r := imp_app [e] r
  rw [this, imp_one]
theorem endE_val (R : List El) : ∀ (b : Bool) (out : List Tok), endE R b out = if badR R b then none else some (out ++ rep (imp R)) := by
  induction R with
  | nil => intro b out; show some out = some (out ++ []); rw [List.append_nil]
  | cons e R ih =>
    intro b out
    have e1 : endE (e :: R) b out = if parK e then endE R true out else if e.kind == 0 then (if b then none else endE R b (out ++ [insT 125])) else endE R b out := rfl
    have e2 : badR (e :: R) b = if parK e then badR R true else ((e.kind == 0) && b) || badR R b := rfl
    rw [e1, e2, imp_cons]
    by_cases hp : parK e = true
    · rw [if_pos hp, if_pos hp, par_imp hp, ih, if_neg Bool.false_ne_true, Nat.zero_add]
    · rw [if_neg hp, if_neg hp]
      cases hk : (e.kind == 0) with
      | false =>
        rw [if_neg Bool.false_ne_true, if_neg Bool.false_ne_true, Bool.false_and, Bool.false_or, ih, Nat.zero_add]
      | true =>
        rw [if_pos rfl, if_pos rfl, Bool.true_and]
        cases b with
        | true => rfl
        | false =>
          rw [if_neg Bool.false_ne_true, Bool.false_or, ih]
          have : (out ++ [insT 125]) ++ rep (imp R) = out ++ rep (1 + imp R) := by
            unfold rep
            rw [Nat.add_comm, List.replicate_succ, List.append_assoc]
            rfl
          rw [this]
theorem badR_snoc (R : List El) (e : El) : ∀ b : Bool, badR (R ++ [e]) b = (badR R b || ((e.kind == 0) && (b || R.any parK))) := by
  induction R with
  | nil =>
    intro b
    show (if parK e then false else ((e.kind == 0) && b) || false) = _
    by_cases hp : parK e = true
    · rw [if_pos hp, par_imp hp]; rfl
    · rw [if_neg hp]
      show _ = (false || ((e.kind == 0) && (b || false)))
      rw [Bool.or_false, Bool.or_false, Bool.false_or]
  | cons u R ih =>
    intro b
    have e1 : badR (u :: R ++ [e]) b = if parK u then badR (R ++ [e]) true else ((u.kind == 0) && b) || badR (R ++ [e]) b := rfl
    have e2 : badR (u :: R) b = if parK u then badR R true else ((u.kind == 0) && b) || badR R b := rfl
    rw [e1, e2, List.any_cons]
    by_cases hp : parK u = true
    · rw [if_pos hp, if_pos hp, ih, hp]
      cases b <;> simp
    · rw [if_neg hp, if_neg hp, ih]
      have hp' : parK u = false := by simpa using hp
      rw [hp', Bool.false_or, Bool.or_assoc]
theorem form_par {e : El} (h : 0 ≤ e.kind ∧ e.kind ≤ 7) : (((toR e).form == 3) || ((toR e).form == 4)) = parK e := by
  have : e.kind = 0 ∨ e.kind = 1 ∨ e.kind = 2 ∨ e.kind = 3 ∨ e.kind = 4 ∨ e.kind = 5 ∨ e.kind = 6 ∨ e.kind = 7 := by omega
  show ((formR e.kind == 3) || (formR e.kind == 4)) = ((e.kind == 2) || (e.kind == 3))
  rcases this with h | h | h | h | h | h | h | h <;> rw [h] <;> decide
theorem bad_rel (l : List El) (hk : Kd l) : rBad (l.map toR) = badR l.reverse false := by
  induction l with
  | nil => rfl
  | cons e l ih =>
    have hk' : Kd l := fun u hu => hk u (List.mem_cons_of_mem _ hu)
    have he := hk e (List.mem_cons_self ..)
    rw [List.reverse_cons, badR_snoc, ← ih hk']
    have e1 : rBad ((e :: l).map toR) = (((toR e).form == 1) && (l.map toR).any (fun x => (x.form == 3) || (x.form == 4)) || rBad (l.map toR)) := rfl
    rw [e1, Bool.or_comm]
    have h1 : ((toR e).form == 1) = (e.kind == 0) := form_imp he
    have h2 : (l.map toR).any (fun x => (x.form == 3) || (x.form == 4)) = l.reverse.any parK := by
      rw [List.any_reverse, List.any_map]
      clear ih e1
      induction l with
      | nil => rfl
      | cons u l ihl =>
        rw [List.any_cons, List.any_cons]
        have hu : ((fun x : REl => (x.form == 3) || (x.form == 4)) ∘ toR) u = parK u := form_par (hk u (by simp))
        rw [hu, ihl (fun v hv => hk v (by rcases List.mem_cons.1 hv with rfl | hv <;> simp_all)) (fun v hv => hk' v (List.mem_cons_of_mem _ hv))]
    rw [h1, h2, Bool.false_or]
theorem end_rel {s : St} {m : RM} (h : Rl s m) : rEnd m = endS s := by
  obtain ⟨e1, _, _⟩ := h.ex
  have hb : rBad m.stack = badR s.els.reverse false := by rw [h.stack]; exact bad_rel _ h.kd
  have hi : imp s.els.reverse = imp s.els := by unfold imp; exact List.countP_reverse
  unfold rEnd endS
  rw [e1, endE_val, hi]
  cases hx : s.exp with
  | true =>
    simp only [if_true]
    have hs : (rIns (rIns m 123) 125).stack = m.stack := rfl
    have hc := cut_eq (m := rIns (rIns m 123) 125) (A := []) (B := s.els) h.stack h.kd (i := -1) (by rfl)
    rw [hs, hb, hc]
    congr 2
    show ((m.out ++ [insT 123]) ++ [insT 125]) ++ _ = _
    rw [h.out, List.append_assoc s.out]
    rfl
  | false =>
    simp only [Bool.false_eq_true, if_false]
    have hc := cut_eq (m := m) (A := []) (B := s.els) h.stack h.kd (i := -1) (by rfl)
    rw [hb, hc]
    show (if _ then none else some (m.out ++ _)) = _
    rw [h.out]
theorem ins_rel (l : List Tok) : ∀ {last : Option Tok} {s : St} {m : RM}, Rl s m → rIns' l last m = insF l last s := by
  induction l with
  | nil =>
    intro last s m h
    unfold rIns' insF
    rw [end_rel h]
    cases endS s <;> rfl
  | cons t l ih =>
    intro last s m h
    unfold rIns' insF
    have key : ∀ f : Bool, (match rStep m t f with | none => fltT t | some m' => rIns' l (some t) m') = (match tokenS s t f with | none => fltT t | some s' => insF l (some t) s') := by
      intro f
      rcases step_rel h t f with ⟨h1, h2⟩ | ⟨s', m', h1, h2, h3⟩
      · rw [h1, h2]
      · rw [h1, h2]
        exact ih h3
    cases last with
    | none => exact key _
    | some p => exact key _
/-- The reference's Insert is the program's. -/
theorem ref_ins (l : List Tok) : refP l = insP l := by
  unfold refP insP
  split
  · rfl
  · exact ins_rel l ⟨rfl, rfl, trivial, fun e he => absurd he List.not_mem_nil, rfl, fun e he => absurd he List.not_mem_nil, rfl, fun hh => absurd (show true = false from hh) (by decide), fun _ => rfl⟩
end Go.Proofs.Ythblchafjmgmbaa
