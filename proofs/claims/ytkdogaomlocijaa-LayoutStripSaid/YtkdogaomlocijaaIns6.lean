/-
  PLAIN. Of the layout algorithm: its run over its own output: closing, lines, commas side by side.
-/
import Derived.Test.YtkdogaomlocijaaIns5
namespace Go.Proofs.Ytkdogaomlocijaa
open Go.RowKit
theorem key_upd (e : El) (b c : Int) (m : Bool) : key { e with blk := b, ctx := c, marked := m } = key e := rfl
theorem Sim.push {s s2 : St} {e e2 : El} (h : Sim s s2) (hk : key e = key e2) (hn : 0 < e2.kind) : Sim (pushE s e) (pushE s2 e2) := by
  refine ⟨?_, ?_, h.out, h.exp, h.word⟩
  · show (s.els ++ [_]).map key = (s2.els ++ [_]).map key
    rw [List.map_append, List.map_append, h.els]
    congr 1
    show [key e] = [key e2]
    rw [hk]
  · intro u hu
    rcases List.mem_append.1 hu with hu | hu
    · exact h.no u hu
    · rw [List.mem_singleton] at hu; subst hu; exact hn
theorem Sim.closed {s s2 : St} (h : Sim s s2) (w : ByteArray) : Sim (closedS s w) (closedS s2 w) := by
  unfold closedS
  split
  · exact h.push rfl (by decide)
  · exact h
theorem mark_key (l : List El) (i : Int) (b : Bool) : (markAt l i b).map key = l.map key := by
  unfold markAt
  generalize i.toNat = k
  induction l generalizing k with
  | nil => simp
  | cons e l ih =>
    cases k with
    | zero => rfl
    | succ k => rw [List.modify_succ_cons, List.map_cons, List.map_cons, ih k]
theorem Sim.mark {s s2 : St} (h : Sim s s2) (b : Bool) : Sim (markS s b) s2 := by
  unfold markS
  split
  · exact h
  · exact ⟨by rw [← h.els]; exact mark_key _ _ _, h.no, h.out, h.exp, h.word⟩
theorem Sim.outs {s s2 : St} (h : Sim s s2) {t : Tok} (ht : t.auto = false) : Sim { s with out := s.out ++ [t] } { s2 with out := s2.out ++ [t] } := by
  refine ⟨h.els, h.no, ?_, h.exp, h.word⟩
  show s2.out ++ [t] = explL (s.out ++ [t])
  rw [expl_app, h.out]
  congr 1
  cases t
  simp only at ht
  subst ht; rfl
theorem dropW_key (r : List El) : ∀ (r2 : List El), r.map key = r2.map key → NoI r2 → (r.dropWhile (fun e => isPen e.kind)).map key = (r2.dropWhile (fun e => isPen e.kind)).map key := by
  induction r with
  | nil => intro r2 h _; cases r2 with
    | nil => rfl
    | cons _ _ => cases h
  | cons e r ih =>
    intro r2 h hn
    cases r2 with
    | nil => cases h
    | cons e2 r2 =>
      rw [List.map_cons, List.map_cons, List.cons.injEq] at h
      have hk := key_kind h.1 (hn e2 (List.mem_cons_self ..))
      have hp : isPen e.kind = isPen e2.kind := by
        rw [hk.1]
        by_cases h0 : e.kind = 0
        · rw [if_pos h0, h0]; rfl
        · rw [if_neg h0]
      rw [List.dropWhile_cons, List.dropWhile_cons, hp]
      split
      · exact ih r2 h.2 (fun u hu => hn u (List.mem_cons_of_mem _ hu))
      · rw [List.map_cons, List.map_cons, h.1, h.2]
theorem drop_key {l l2 : List El} (h : l.map key = l2.map key) (hn : NoI l2) : (dropP l).map key = (dropP l2).map key := by
  unfold dropP
  rw [List.map_reverse, List.map_reverse]
  congr 1
  exact dropW_key _ _ (by rw [List.map_reverse, List.map_reverse, h]) (fun u hu => hn u (List.mem_reverse.1 hu))
theorem drop_no {l : List El} (hn : NoI l) : NoI (dropP l) := by
  obtain ⟨D, h, _⟩ := drop_split l
  rw [h] at hn
  exact hn.left
theorem item_sim {s s2 : St} (h : Sim s s2) (t : Tok) : Sim (itemS s t) (itemS s2 t) := by
  have hl : s2.out.getLast? = s.out.getLast?.map xp := by rw [h.out]; exact List.getLast?_map ..
  unfold itemS
  rw [hl]
  cases s.out.getLast? with
  | none => exact h
  | some u =>
    simp only [Option.map_some]
    have hu : spT (xp u) [59] = spT u [59] := rfl
    rw [hu]
    split
    · exact ⟨drop_key h.els h.no, drop_no h.no, h.out, h.exp, h.word⟩
    · exact h
theorem item_calm {s : St} (h : Calm s) (t : Tok) : Calm (itemS s t) := by
  rcases item_cases s t with h1 | h1
  · rw [h1]; exact h
  · rw [h1]; exact h
theorem item_out (s : St) (t : Tok) : (itemS s t).out = s.out := by
  rcases item_cases s t with h1 | h1
  · rw [h1]
  · rw [h1]
theorem item_last {s : St} {o : List Tok} (h : s.out = o ++ [exT 125]) (t : Tok) : itemS s t = s := by
  unfold itemS
  rw [h, List.getLast?_concat]
  rfl
/-- As Sim, but pendings may lie on top. -/
structure SimD (s s2 : St) : Prop where
  els : ∃ E2 D2, s2.els = E2 ++ D2 ∧ Pens D2 ∧ s.els.map key = E2.map key
  no : NoI s2.els
  out : s2.out = explL s.out
  exp : s2.exp = s.exp
  word : s2.word = s.word
theorem Sim.d {s s2 : St} (h : Sim s s2) : SimD s s2 := ⟨⟨s2.els, [], (List.append_nil _).symm, fun _ hu => absurd hu List.not_mem_nil, h.els⟩, h.no, h.out, h.exp, h.word⟩
theorem Sim.item {s s2 : St} (h : Sim s s2) (t : Tok) : SimD (itemS s t) s2 := by
  rcases item_cases s t with h1 | h1
  · rw [h1]; exact h.d
  · rw [h1]
    obtain ⟨D, h2, h3⟩ := drop_split s.els
    obtain ⟨E2, D2, h4, h5, h6⟩ := key_app h.els h2
    exact ⟨⟨E2, D2, h4, key_pens h6 (h4 ▸ h.no : NoI (E2 ++ D2)).right h3, h5⟩, h.no, h.out, h.exp, h.word⟩
/-- An implicit block is closed. -/
theorem blk_sim {s s2 s' : St} (h : SimD s s2) (hc : Calm s) (hb : closeB s (isK 0) = some s') :
    ∃ s2', Runs s2 [exT 125] s2' ∧ Sim s' s2' ∧ Calm s' ∧ s'.out = s.out ++ [insT 125] := by
  unfold closeB at hb
  cases hcl : closeTo s (isK 0) with
  | none => rw [hcl] at hb; cases hb
  | some r =>
    obtain ⟨e, s1⟩ := r
    rw [hcl] at hb
    injection hb with hb
    simp only at hb
    obtain ⟨A, Q, h1, h2, h3, h4, h5, h6, h7⟩ := closeTo_spec hcl
    have he : e.kind = 0 := by unfold isK at h2; simpa using h2
    have hQ : Pens Q := by
      intro q hq
      obtain ⟨g1, g2⟩ := h3 q hq
      unfold isK at g1
      unfold isWri isCtx at g2
      unfold isPen
      have g1' : q.kind ≠ 0 := by simpa using g1
      rcases Bool.and_eq_false_iff.1 g2 with h | h
      · have : ¬ q.kind ≤ 3 := by simpa using h
        simp; omega
      · exact absurd (by simpa using h) g1'
    have hi : imp (e :: Q) = 1 := by
      have : imp (e :: Q) = imp [e] + imp Q := imp_app [e] Q
      rw [this, pens_imp hQ, imp_one, he]; rfl
    obtain ⟨E2, D2, k1, k2, k3⟩ := h.els
    obtain ⟨A2, e2, Q2, k4, k5, k6, k7⟩ := key_split k3 h1
    have hn : NoI (A2 ++ e2 :: (Q2 ++ D2)) := by have := h.no; rw [k1, k4] at this; simpa using this
    have he2 := key_kind k6 (hn e2 (by simp))
    rw [he] at he2
    obtain ⟨s2', x, j1, j2, j3, j4, j5, j6, j7⟩ := step_close (A := A2) (e := e2) (Q := Q2 ++ D2) h.no ⟨by rw [h.exp]; exact hc.1, by rw [h.word]; exact hc.2⟩ (by rw [k1, k4]; simp) he2.1 ((key_pens k7 (fun u hu => hn u (by simp [hu])) hQ).app k2)
    have hco : s'.out = s1.out ∧ s'.exp = s1.exp ∧ s'.word = s1.word := by
      rw [← hb]; unfold closedS; split <;> exact ⟨rfl, rfl, rfl⟩
    have ho : s'.out = s.out ++ [insT 125] := by rw [hco.1, h5, hi]; rfl
    have hc' : Calm s' := ⟨by rw [hco.2.1, h6]; exact hc.1, by rw [hco.2.2, h7]; exact hc.2⟩
    refine ⟨s2', .one j1, ⟨?_, j5, ?_, ?_, ?_⟩, hc', ho⟩
    · rw [j2, ← hb]
      unfold closedS
      by_cases hl : tx e.word bLet = true
      · rw [if_pos hl, if_pos (by rw [he2.2]; exact hl)]
        show (s1.els ++ [_]).map key = _
        rw [h4, List.map_append, List.map_append, k5]
        congr 1
        show [key (elK 7)] = [key x]
        unfold key
        rw [j3, j4]; rfl
      · rw [if_neg hl, if_neg (by rw [he2.2]; exact hl), h4, List.append_nil, k5]
    · rw [j7, h.out, ho, expl_app]; rfl
    · rw [j6.1, hc'.1]
    · rw [j6.2, hc'.2]
theorem Sim.calm {s s2 : St} (h : Sim s s2) (hc : Calm s) : Calm s2 := ⟨by rw [h.exp]; exact hc.1, by rw [h.word]; exact hc.2⟩
theorem line_sim (k : Nat) : ∀ {s s2 s' : St} {col : Int}, Sim s s2 → Calm s → lineS k s col = some s' →
    ∃ X s2', Runs s2 (explL X) s2' ∧ Sim s' s2' ∧ Calm s' ∧ s'.out = s.out ++ X := by
  induction k with
  | zero => intro s s2 s' col h hc hl; injection hl with hl; subst hl; exact ⟨[], s2, .nil _, h, hc, (List.append_nil _).symm⟩
  | succ k ih =>
    intro s s2 s' col h hc hl
    unfold lineS at hl
    split at hl
    · injection hl with hl; subst hl; exact ⟨[], s2, .nil _, h, hc, (List.append_nil _).symm⟩
    · split at hl
      · injection hl with hl; subst hl; exact ⟨[], s2, .nil _, h, hc, (List.append_nil _).symm⟩
      · split at hl
        · injection hl with hl; subst hl
          refine ⟨[insT 59], _, .one (step_semi h.no (h.calm hc)), ⟨?_, h.no, ?_, h.exp, h.word⟩, hc, rfl⟩
          · rw [← h.els]; exact mark_key _ _ _
          · show s2.out ++ _ = explL (s.out ++ [insT 59])
            rw [expl_app, h.out]; rfl
        · split at hl
          · cases hl
          · rename_i s1 hb
            obtain ⟨s3, h1, h2, h3, h4⟩ := blk_sim h.d hc hb
            obtain ⟨X, s4, g1, g2, g3, g4⟩ := ih h2 h3 hl
            exact ⟨insT 125 :: X, s4, h1.app g1, g2, g3, by rw [g4, h4]; simp⟩
theorem comma_sim (k : Nat) : ∀ {s s2 : St}, SimD s s2 → Calm s →
    commaS k s = s ∨ ∃ m s2', Runs s2 (explL (rep (m + 1))) s2' ∧ Sim (commaS k s) s2' ∧ Calm (commaS k s) ∧ (commaS k s).out = s.out ++ rep (m + 1) := by
  induction k with
  | zero => intro s s2 _ _; exact .inl rfl
  | succ k ih =>
    intro s s2 h hc
    unfold commaS
    split
    · split
      · exact .inl rfl
      · split
        · cases hb : closeB s (isK 0) with
          | none =>
            rw [Option.getD_none]
            exact ih h hc
          | some s1 =>
            rw [Option.getD_some]
            obtain ⟨s3, h1, h2, h3, h4⟩ := blk_sim h hc hb
            rcases ih h2.d h3 with g | ⟨m, s4, g1, g2, g3, g4⟩
            · rw [g]
              exact .inr ⟨0, s3, h1, h2, h3, h4⟩
            · refine .inr ⟨m + 1, s4, ?_, g2, g3, ?_⟩
              · rw [expl_rep] at g1 ⊢
                rw [List.replicate_succ]
                exact h1.app g1
              · rw [g4, h4]
                show _ = s.out ++ List.replicate (m + 1 + 1) (insT 125)
                rw [List.replicate_succ]
                simp [rep]
        · exact .inl rfl
    · exact .inl rfl
end Go.Proofs.Ytkdogaomlocijaa
