/-
  PLAIN. Of the layout algorithm: its run over its own output: a token's own work, side by side.
-/
import Derived.Test.YtkdogaomlocijaaIns7
namespace Go.Proofs.Ytkdogaomlocijaa
open Go.RowKit
/-- Between two tokens. -/
structure Good (s : St) : Prop where
  calm : s.exp = false → s.word = ⟨#[]⟩
  first : s.exp = true → s.word.data.toList = [] → s.els = []
  last : s.exp = true → ∀ u, s.out.getLast? = some u → spT u [59] = false
/-- A token's own work, side by side: X is what was inserted. -/
def Side (s s2 s' : St) (t : Tok) (w : ByteArray) : Prop :=
  ∃ X s2' s3, Runs s2 (explL X) s2' ∧ NoI s2'.els ∧ Calm s2' ∧ core s2' t w = some s3 ∧ Sim s' s3 ∧ s'.out = s.out ++ X ++ [t] ∧ Good s'
theorem key_not {s : St} {t : Tok} (h : t.op ≠ 9) : keyS s t = some s := by
  unfold keyS
  rw [if_neg (by simpa using h)]
theorem core_not {s : St} {t : Tok} {w : ByteArray} (h : t.op ≠ 9) : core s t w = (bracketS (itemS s t) t w).map fun s => { s with out := s.out ++ [t] } := by
  unfold core
  cases bracketS (itemS s t) t w with
  | none => rfl
  | some s3 => simp only [key_not h]
theorem core_key {s : St} {t : Tok} {w : ByteArray} (h : t.op = 9) : core s t w = (keyS (itemS s t) t).map fun s => { s with out := s.out ++ [t] } := by
  unfold core bracketS
  have h1 : (t.op == 10) = false := by rw [h]; rfl
  have h2 : (t.op == 8) = false := by rw [h]; rfl
  rw [h1, h2]
  rfl
theorem brk8 {s : St} {t : Tok} {w : ByteArray} (h : t.op = 8) : bracketS s t w =
    if tx t.text [40] then some (pushE s (elK 2))
    else if tx t.text [91] then some (pushE s (elK 3))
    else if tx t.text [123] then some (pushE s ⟨1, 0, w, false, 0, 0⟩)
    else if tx t.text [41] then closeB s (isK 2)
    else if tx t.text [93] then closeB s (isK 3)
    else if tx t.text [125] then closeB s (isK 1)
    else if tx t.text [44] then some (commaS (2 * s.els.length + 2) s)
    else if tx t.text [59] then some (markS s false)
    else some s := by
  unfold bracketS
  have h1 : (t.op == 10) = false := by rw [h]; rfl
  have h2 : (t.op == 8) = true := by rw [h]; rfl
  rw [h1, h2]
  rfl
theorem good_calm {s : St} (h : Calm s) (t : Tok) : Good { s with out := s.out ++ [t] } :=
  have hx : s.exp = true → False := fun h1 => by rw [h.1] at h1; cases h1
  ⟨fun _ => h.2, fun h1 => (hx h1).elim, fun h1 => (hx h1).elim⟩
/-- Where nothing was inserted and the token is no word that opens. -/
theorem side_same {s s2 s3 s4 : St} {t : Tok} {w : ByteArray} (h : Sim s s2) (hc : Calm s) (ht : t.auto = false) (h9 : t.op ≠ 9) (hb : bracketS (itemS s2 t) t w = some s4) (hS : Sim s3 s4) (hc3 : Calm s3) (ho : s3.out = s.out) : Side s s2 { s3 with out := s3.out ++ [t] } t w :=
  ⟨[], s2, { s4 with out := s4.out ++ [t] }, .nil _, h.no, h.calm hc, by rw [core_not h9, hb]; rfl, hS.outs ht, by
    show s3.out ++ [t] = _
    rw [ho, List.append_nil], good_calm hc3 t⟩
theorem push_calm {s : St} (h : Calm s) (e : El) : Calm (pushE s e) := h
theorem side_close {s s2 s' : St} {t : Tok} {w : ByteArray} {k : Int} (h : Sim s s2) (hc : Calm s) (ht : t.auto = false) (h9 : t.op ≠ 9) (h0 : k ≠ 0) (h7 : k ≠ 7)
    (hb : ∀ s, bracketS s t w = closeB s (isK k)) (hcl : (closeB (itemS s t) (isK k)).map (fun s => { s with out := s.out ++ [t] }) = some s') : Side s s2 s' t w := by
  unfold closeB at hcl
  cases hc1 : closeTo (itemS s t) (isK k) with
  | none => rw [hc1] at hcl; cases hcl
  | some r =>
    obtain ⟨e, s1⟩ := r
    rw [hc1] at hcl
    injection hcl with hcl
    simp only at hcl
    obtain ⟨A, Q, _, g2, _⟩ := closeTo_spec hc1
    have hek : e.kind ≠ 0 := by
      unfold isK at g2
      have : e.kind = k := by simpa using g2
      rw [this]; exact h0
    obtain ⟨m, s2', e2, s3, k1, k2, k3, k4, k5, k6, k7, k8⟩ := close_sim h hc hc1 hek (tr_k h7 g2)
    have hco : (closedS s1 e.word).out = s1.out := by unfold closedS; split <;> rfl
    have hcc : Calm (closedS s1 e.word) := by unfold closedS; split <;> exact k6
    refine ⟨rep m, s2', { closedS s3 e.word with out := (closedS s3 e.word).out ++ [t] }, k1, k2, k3, ?_, ?_, ?_, ?_⟩
    · rw [core_not h9, hb]
      unfold closeB
      rw [k4]
      show some ({ closedS s3 e2.word with out := (closedS s3 e2.word).out ++ [t] } : St) = _
      rw [k7]
    · rw [← hcl]; exact (k5.closed e.word).outs ht
    · rw [← hcl]
      show (closedS s1 e.word).out ++ [t] = _
      rw [hco, k8]
    · rw [← hcl]; exact good_calm hcc t
theorem side_brk {s s2 s' : St} {t : Tok} {w : ByteArray} (h : Sim s s2) (hc : Calm s) (ht : t.auto = false) (h8 : t.op = 8) (hr : core s t w = some s') : Side s s2 s' t w := by
  have h9 : t.op ≠ 9 := by rw [h8]; decide
  have hI := item_sim h t
  have hIc := item_calm hc t
  have hIo := item_out s t
  rw [core_not h9, brk8 h8] at hr
  by_cases a1 : tx t.text [40] = true
  · rw [if_pos a1] at hr
    injection hr with hr; subst hr
    exact side_same h hc ht h9 (by rw [brk8 h8, if_pos a1]) (hI.push rfl (by decide)) (push_calm hIc _) hIo
  rw [if_neg a1] at hr
  by_cases a2 : tx t.text [91] = true
  · rw [if_pos a2] at hr
    injection hr with hr; subst hr
    exact side_same h hc ht h9 (by rw [brk8 h8, if_neg a1, if_pos a2]) (hI.push rfl (by decide)) (push_calm hIc _) hIo
  rw [if_neg a2] at hr
  by_cases a3 : tx t.text [123] = true
  · rw [if_pos a3] at hr
    injection hr with hr; subst hr
    exact side_same h hc ht h9 (by rw [brk8 h8, if_neg a1, if_neg a2, if_pos a3]) (hI.push rfl (show (0 : Int) < 1 by decide)) (push_calm hIc _) hIo
  rw [if_neg a3] at hr
  by_cases a4 : tx t.text [41] = true
  · rw [if_pos a4] at hr
    exact side_close (k := 2) h hc ht h9 (by decide) (by decide) (fun s => by rw [brk8 h8, if_neg a1, if_neg a2, if_neg a3, if_pos a4]) hr
  rw [if_neg a4] at hr
  by_cases a5 : tx t.text [93] = true
  · rw [if_pos a5] at hr
    exact side_close (k := 3) h hc ht h9 (by decide) (by decide) (fun s => by rw [brk8 h8, if_neg a1, if_neg a2, if_neg a3, if_neg a4, if_pos a5]) hr
  rw [if_neg a5] at hr
  by_cases a6 : tx t.text [125] = true
  · rw [if_pos a6] at hr
    exact side_close (k := 1) h hc ht h9 (by decide) (by decide) (fun s => by rw [brk8 h8, if_neg a1, if_neg a2, if_neg a3, if_neg a4, if_neg a5, if_pos a6]) hr
  rw [if_neg a6] at hr
  by_cases a7 : tx t.text [44] = true
  · rw [if_pos a7] at hr
    injection hr with hr
    have hbr : ∀ u : St, NoI u.els → bracketS u t w = some u := fun u hu => by
      rw [brk8 h8, if_neg a1, if_neg a2, if_neg a3, if_neg a4, if_neg a5, if_neg a6, if_pos a7, comma_no hu]
    rcases comma_sim (2 * (itemS s t).els.length + 2) (h.item t) hIc with g | ⟨m, s2', g1, g2, g3, g4⟩
    · rw [g] at hr
      subst hr
      exact side_same h hc ht h9 (hbr _ hI.no) hI hIc hIo
    · subst hr
      have ho : s2'.out = (s2.out ++ List.replicate m (exT 125)) ++ [exT 125] := by
        rw [g2.out, g4, expl_app, expl_rep, hIo, ← h.out, List.replicate_succ']; simp
      have hit := item_last ho t
      refine ⟨rep (m + 1), s2', { s2' with out := s2'.out ++ [t] }, g1, g2.no, g2.calm g3, ?_, g2.outs ht, ?_, good_calm g3 t⟩
      · rw [core_not h9, hit, hbr _ g2.no]; rfl
      · show (commaS _ _).out ++ [t] = _
        rw [g4, hIo]
  rw [if_neg a7] at hr
  by_cases a8 : tx t.text [59] = true
  · rw [if_pos a8] at hr
    injection hr with hr; subst hr
    have hm : Calm (markS (itemS s t) false) ∧ (markS (itemS s t) false).out = (itemS s t).out := by unfold markS; split <;> exact ⟨hIc, rfl⟩
    exact side_same h hc ht h9 (by rw [brk8 h8, if_neg a1, if_neg a2, if_neg a3, if_neg a4, if_neg a5, if_neg a6, if_neg a7, if_pos a8, mark_no hI.no]) (hI.mark false) hm.1 (hm.2.trans hIo)
  rw [if_neg a8] at hr
  injection hr with hr; subst hr
  exact side_same h hc ht h9 (by rw [brk8 h8, if_neg a1, if_neg a2, if_neg a3, if_neg a4, if_neg a5, if_neg a6, if_neg a7, if_neg a8]) hI hIc hIo
theorem side_else {s s2 s' : St} {t : Tok} {w : ByteArray} (h : Sim s s2) (hc : Calm s) (ht : t.auto = false) (h8 : t.op ≠ 8) (h9 : t.op ≠ 9) (hr : core s t w = some s') : Side s s2 s' t w := by
  have hI := item_sim h t
  have hIc := item_calm hc t
  have hIo := item_out s t
  have hb : ∀ u : St, bracketS u t w = some (if (t.op == 10) && tx t.text [61] then markS u true else u) := fun u => by
    unfold bracketS
    have h2 : (t.op == 8) = false := by simpa using h8
    rw [h2]
    rfl
  rw [core_not h9, hb] at hr
  injection hr with hr
  by_cases a : ((t.op == 10) && tx t.text [61]) = true
  · rw [if_pos a] at hr
    subst hr
    have hm : Calm (markS (itemS s t) true) ∧ (markS (itemS s t) true).out = (itemS s t).out := by unfold markS; split <;> exact ⟨hIc, rfl⟩
    exact side_same h hc ht h9 (by rw [hb, if_pos a, mark_no hI.no]) (hI.mark true) hm.1 (hm.2.trans hIo)
  · rw [if_neg a] at hr
    subst hr
    exact side_same h hc ht h9 (by rw [hb, if_neg a]) hI hIc hIo
end Go.Proofs.Ytkdogaomlocijaa
