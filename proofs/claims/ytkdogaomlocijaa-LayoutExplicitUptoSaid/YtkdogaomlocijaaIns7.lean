/-
  PLAIN. Of the layout algorithm: its run over its own output: closing to an element; a token's own work.
-/
import Derived.Test.YtkdogaomlocijaaIns6
namespace Go.Proofs.Ytkdogaomlocijaa
open Go.RowKit
structure Tr (p p2 : El → Bool) (e : El) : Prop where
  yes : ∀ u : El, u.kind = e.kind → u.word = e.word → p2 u = true
  no : ∀ q u : El, p q = false → isPen q.kind = true → u.kind = q.kind → u.word = q.word → p2 u = false
  lt : ∀ q u : El, p q = false → q.kind = 0 → tx q.word bLet = true → u.kind = 7 → p2 u = false
theorem tr_k {k : Int} (h7 : k ≠ 7) {e : El} (he : isK k e = true) : Tr (isK k) (isK k) e := by
  refine ⟨fun u hu _ => ?_, fun q u hq _ hu _ => ?_, fun q u _ _ _ hu => ?_⟩
  · unfold isK at he ⊢; rw [hu]; exact he
  · unfold isK at hq ⊢; rw [hu]; exact hq
  · unfold isK; rw [hu]; simpa using fun h => h7 h.symm
theorem tr_let {e : El} (he : letE e = true) (hk : e.kind ≠ 0) : Tr letE letE e := by
  have h7 : e.kind = 7 := by
    unfold letE at he
    rcases Bool.or_eq_true_iff.1 he with h | h
    · simpa using h
    · exact absurd (by simpa using (Bool.and_eq_true_iff.1 h).1) hk
  refine ⟨fun u hu _ => ?_, fun q u hq hp hu _ => ?_, fun q u hq h0 hl _ => ?_⟩
  · unfold letE; rw [hu, h7]; rfl
  · unfold letE at hq ⊢
    have h1 : (q.kind == 7) = false := (Bool.or_eq_false_iff.1 hq).1
    have h2 : (q.kind == 0) = false := by simpa using (pen_kind hp).2.1
    rw [hu, h1, h2]; rfl
  · unfold letE at hq
    have h1 := (Bool.or_eq_false_iff.1 hq).2
    rw [h0, hl] at h1
    cases h1
theorem item_exp (s : St) (t : Tok) : (itemS s t).exp = s.exp ∧ (itemS s t).word = s.word := by
  rcases item_cases s t with h1 | h1
  · rw [h1]; exact ⟨rfl, rfl⟩
  · rw [h1]; exact ⟨rfl, rfl⟩
theorem rep_last (n : Nat) (o : List Tok) (hn : n ≠ 0) : ∃ o', o ++ List.replicate n (exT 125) = o' ++ [exT 125] := by
  obtain ⟨k, rfl⟩ : ∃ k, n = k + 1 := ⟨n - 1, by omega⟩
  exact ⟨o ++ List.replicate k (exT 125), by rw [List.replicate_succ']; simp⟩
/-- Closing to an element, side by side: first the braces, then the token's own closing. -/
theorem close_sim {s s2 s' : St} {t : Tok} {p p2 : El → Bool} {e : El} (h : Sim s s2) (hc : Calm s) (hcl : closeTo (itemS s t) p = some (e, s')) (he : e.kind ≠ 0) (hT : Tr p p2 e) :
    ∃ m s2' e2 s3, Runs s2 (explL (rep m)) s2' ∧ NoI s2'.els ∧ Calm s2' ∧ closeTo (itemS s2' t) p2 = some (e2, s3) ∧ Sim s' s3 ∧ Calm s' ∧ e2.word = e.word ∧ s'.out = s.out ++ rep m := by
  obtain ⟨A, Q, h1, h2, h3, h4, h5, h6, h7⟩ := closeTo_spec hcl
  have hi : imp (e :: Q) = imp Q := by
    have : imp (e :: Q) = imp [e] + imp Q := imp_app [e] Q
    rw [this, imp_one, if_neg (by simpa using he)]; omega
  rw [hi, item_out] at h5
  have hc' : Calm s' := ⟨by rw [h6, (item_exp s t).1]; exact hc.1, by rw [h7, (item_exp s t).2]; exact hc.2⟩
  have hc2 := h.calm hc
  -- what closing there gives
  have fin : ∀ (s2' : St) (A2 P Q2 : List El) (e2 : El), (itemS s2' t).els = A2 ++ e2 :: P → A.map key = A2.map key → key e = key e2 → NoI (itemS s2' t).els → Calm s2' → Over Q Q2 P → Q.map key = Q2.map key → NoI Q2 → s2'.out = s2.out ++ List.replicate (imp Q) (exT 125) →
      ∃ s3, closeTo (itemS s2' t) p2 = some (e2, s3) ∧ Sim s' s3 ∧ e2.word = e.word := by
    intro s2' A2 P Q2 e2 g1 g2 g3 g4 g5 g6 g7 g8 g9
    have hn : NoI (A2 ++ e2 :: P) := g1 ▸ g4
    have he2 := key_kind g3 (hn e2 (by simp))
    rw [if_neg he] at he2
    obtain ⟨w, hw⟩ := closeTo_of (p := p2) g1 (hT.yes e2 he2.1 he2.2) (fun u hu => by
      refine ⟨?_, (pen_kind (g6.pens u hu)).1⟩
      rcases g6 u hu with ⟨k1, k2⟩ | ⟨k1, _, q, k3, k4, k5⟩
      · obtain ⟨q, k3, k4⟩ := key_mem g7 k1
        have k5 := key_kind k4 (g8 u k1)
        by_cases k6 : q.kind = 0
        · rw [if_pos k6] at k5
          exact absurd k5.1 (pen_kind k2).2.2.1
        · rw [if_neg k6] at k5
          exact hT.no q u (h3 q k3).1 (by rw [← k5.1]; exact k2) k5.1 k5.2
      · exact hT.lt q u (h3 q k3).1 k4 k5 k1)
    have hz : imp (e2 :: P) = 0 := NoI.imp hn.right
    rw [hz] at hw
    refine ⟨_, hw, ⟨by rw [h4]; exact g2, hn.left, ?_, ?_, ?_⟩, he2.2⟩
    · show (itemS s2' t).out ++ rep 0 = _
      rw [item_out, g9, h5, expl_app, expl_rep, h.out]
      exact List.append_nil _
    · show (itemS s2' t).exp = _
      rw [(item_exp s2' t).1, g5.1, hc'.1]
    · show (itemS s2' t).word = _
      rw [(item_exp s2' t).2, g5.2, hc'.2]
  by_cases hz : imp Q = 0
  · have hS := item_sim h t
    obtain ⟨A2, e2, Q2, k1, k2, k3, k4⟩ := key_split hS.els h1
    have hQ : Pens Q := by
      intro u hu
      unfold imp at hz
      rw [List.countP_eq_zero] at hz
      have h0 := hz u hu
      have := (h3 u hu).2
      unfold isWri isCtx at this
      unfold isPen
      rcases Bool.and_eq_false_iff.1 this with h5 | h5
      · have : ¬ u.kind ≤ 3 := by simpa using h5
        simp; omega
      · exact absurd (by simpa using h5) (by simpa using h0)
    have hn2 : NoI (A2 ++ e2 :: Q2) := k1 ▸ hS.no
    have hnQ : NoI Q2 := fun u hu => hn2 u (by simp [hu])
    have hQ2 := key_pens k4 hnQ hQ
    obtain ⟨s3, j1, j2, j3⟩ := fin s2 A2 Q2 Q2 e2 k1 k2 k3 hS.no hc2 (fun u hu => .inl ⟨hu, hQ2 u hu⟩) k4 hnQ (by rw [hz]; exact (List.append_nil _).symm)
    exact ⟨0, s2, e2, s3, .nil _, h.no, hc2, j1, j2, hc', j3, by rw [h5, hz]⟩
  · obtain ⟨E2, D2, k1, k2, k3⟩ := (h.item t).els
    obtain ⟨A2, e2, Q2, k4, k5, k6, k7⟩ := key_split k3 h1
    have hn : NoI (A2 ++ e2 :: (Q2 ++ D2)) := by have := h.no; rw [k1, k4] at this; simpa using this
    obtain ⟨s2', P, j1, j2, j3, j4, j5, j6, j7, _⟩ := multi (imp Q) s2 (A2 ++ [e2]) Q Q2 D2 h.no hc2 (by rw [k1, k4]; simp) k7 (fun q hq => (h3 q hq).2) k2 rfl
    obtain ⟨o', ho⟩ := rep_last (imp Q) s2.out hz
    have hit : itemS s2' t = s2' := item_last (j5.trans ho) t
    obtain ⟨s3, g1, g2, g3⟩ := fin s2' A2 P Q2 e2 (by rw [hit, j2]; simp) k5 k6 (by rw [hit]; exact j3) j4 (j7 hz) k7 (fun u hu => hn u (by simp [hu])) j5
    exact ⟨imp Q, s2', e2, s3, by rw [expl_rep]; exact j1, j3, j4, g1, g2, hc', g3, h5⟩
/-- `in` closes an implicit block of let: there a brace closes it, and `in` the pending let. -/
theorem in_sim {s s2 s' : St} {t : Tok} {e : El} (h : Sim s s2) (hc : Calm s) (hcl : closeTo (itemS s t) letE = some (e, s')) (he : e.kind = 0) :
    ∃ m s2' e2 s3, Runs s2 (explL (rep m)) s2' ∧ NoI s2'.els ∧ Calm s2' ∧ closeTo (itemS s2' t) letE = some (e2, s3) ∧ Sim s' s3 ∧ Calm s' ∧ s'.out = s.out ++ rep m := by
  obtain ⟨A, Q, h1, h2, h3, h4, h5, h6, h7⟩ := closeTo_spec hcl
  have hi : imp (e :: Q) = imp Q + 1 := by
    have : imp (e :: Q) = imp [e] + imp Q := imp_app [e] Q
    rw [this, imp_one, he]; exact Nat.add_comm 1 _
  rw [hi, item_out] at h5
  have hc' : Calm s' := ⟨by rw [h6, (item_exp s t).1]; exact hc.1, by rw [h7, (item_exp s t).2]; exact hc.2⟩
  have hc2 := h.calm hc
  have hl : tx e.word bLet = true := by
    unfold letE at h2
    rw [he] at h2
    simpa using h2
  obtain ⟨E2, D2, k1, k2, k3⟩ := (h.item t).els
  obtain ⟨A2, e2, Q2, k4, k5, k6, k7⟩ := key_split k3 h1
  have hn : NoI (A2 ++ e2 :: (Q2 ++ D2)) := by have := h.no; rw [k1, k4] at this; simpa using this
  have he2 := key_kind k6 (hn e2 (by simp))
  rw [if_pos he] at he2
  obtain ⟨s2', P, j1, j2, j3, j4, j5, j6, _, _⟩ := multi (imp Q) s2 (A2 ++ [e2]) Q Q2 D2 h.no hc2 (by rw [k1, k4]; simp) k7 (fun q hq => (h3 q hq).2) k2 rfl
  obtain ⟨s4, x, g1, g2, g3, g4, g5, g6, g7⟩ := step_close (A := A2) (e := e2) (Q := P) j3 j4 (by rw [j2]; simp) he2.1 j6
  rw [if_pos (by rw [he2.2]; exact hl)] at g2
  have hit : itemS s4 t = s4 := item_last g7 t
  obtain ⟨w, hw⟩ := closeTo_of (s := s4) (p := letE) (A := A2) (Q := []) (e := x) g2 (by unfold letE; rw [g3]; rfl) (fun u hu => absurd hu List.not_mem_nil)
  have hz : imp [x] = 0 := by rw [imp_one, g3]; rfl
  rw [hz] at hw
  refine ⟨imp Q + 1, s4, x, _, ?_, g5, g6, by rw [hit]; exact hw, ⟨by rw [h4]; exact k5, (g2 ▸ g5 : NoI (A2 ++ [x])).left, ?_, ?_, ?_⟩, hc', h5⟩
  · rw [expl_rep, List.replicate_succ']
    exact j1.app (.one g1)
  · show s4.out ++ rep 0 = _
    rw [g7, j5, h5, expl_app, expl_rep, h.out, List.replicate_succ']
    simp [rep]
  · show s4.exp = _
    rw [g6.1, hc'.1]
  · show s4.word = _
    rw [g6.2, hc'.2]
end Go.Proofs.Ytkdogaomlocijaa
