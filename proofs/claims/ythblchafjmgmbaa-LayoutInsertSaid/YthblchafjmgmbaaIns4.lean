/-
  PLAIN. Of the layout algorithm: its run over its own output, all of it explicit: the steps.
-/
import Derived.Test.YthblchafjmgmbaaIns3
namespace Go.Proofs.Ythblchafjmgmbaa
open Go.RowKit
def xp (t : Tok) : Tok := { t with auto := false }
def exT (b : UInt8) : Tok := ⟨8, ⟨#[]⟩, ⟨#[b]⟩, 0, false, 0, 0⟩
theorem expl_app (a b : List Tok) : explL (a ++ b) = explL a ++ explL b := List.map_append ..
theorem expl_ins (b : UInt8) : explL [insT b] = [exT b] := rfl
theorem expl_rep (n : Nat) : explL (rep n) = List.replicate n (exT 125) := by unfold explL rep; rw [List.map_replicate]; rfl
/-- The run over a list of tokens, whatever their lines. -/
inductive Runs : St → List Tok → St → Prop where
  | nil (s : St) : Runs s [] s
  | cons {s s1 s2 : St} {t : Tok} {l : List Tok} : (∀ f, tokenS s t f = some s1) → Runs s1 l s2 → Runs s (t :: l) s2
theorem Runs.app {s s1 s2 : St} {a b : List Tok} (h : Runs s a s1) (h2 : Runs s1 b s2) : Runs s (a ++ b) s2 := by
  induction h with
  | nil => exact h2
  | cons h _ ih => exact .cons h (ih h2)
theorem Runs.one {s s1 : St} {t : Tok} (h : ∀ f, tokenS s t f = some s1) : Runs s [t] s1 := .cons h (.nil _)
theorem Runs.nil_eq {s s1 : St} (h : Runs s [] s1) : s1 = s := by cases h; rfl
/-- What of an element counts. -/
def key (e : El) : Int × ByteArray := (if e.kind = 0 then 1 else e.kind, e.word)
def Pens (l : List El) : Prop := ∀ e ∈ l, isPen e.kind = true
structure Sim (s s2 : St) : Prop where
  els : s.els.map key = s2.els.map key
  no : NoI s2.els
  out : s2.out = explL s.out
  exp : s2.exp = s.exp
  word : s2.word = s.word
/-- No block is awaited. -/
def Calm (s : St) : Prop := s.exp = false ∧ s.word = ⟨#[]⟩
def core (s : St) (t : Tok) (w : ByteArray) : Option St := match bracketS (itemS s t) t w with
  | none => none
  | some s3 => (keyS s3 t).map fun s4 => { s4 with out := s4.out ++ [t] }
theorem calm_eq {s : St} (h : Calm s) : { s with exp := false, word := ⟨#[]⟩ } = s := by
  obtain ⟨a, b⟩ := h
  cases s
  simp only at a b
  subst a; subst b; rfl
theorem token_calm {s : St} (h : NoI s.els) (hc : Calm s) (t : Tok) (f : Bool) : tokenS s t f = core s t ⟨#[]⟩ := by
  rw [token_no h t f (fun hx => by rw [hc.1] at hx; cases hx), calm_eq hc, hc.2]
  rfl
theorem pen_kind {k : Int} (h : isPen k = true) : isWri k = false ∧ k ≠ 0 ∧ k ≠ 1 ∧ k ≠ 2 ∧ k ≠ 3 := by
  unfold isPen at h
  have : 3 < k := by simpa using h
  refine ⟨?_, by omega, by omega, by omega, by omega⟩
  unfold isWri isCtx
  have : ¬ k ≤ 3 := by omega
  simp [this]
theorem drop_pens {A : List El} {e : El} {Q : List El} (he : isPen e.kind = false) (hq : Pens Q) : dropP (A ++ e :: Q) = A ++ [e] := by
  unfold dropP
  have h1 : (A ++ e :: Q).reverse = Q.reverse ++ e :: A.reverse := by simp
  rw [h1, List.dropWhile_append_of_pos (fun a ha => hq a (List.mem_reverse.1 ha)), List.dropWhile_cons]
  rw [he]
  simp
theorem drop_split (l : List El) : ∃ D, l = dropP l ++ D ∧ Pens D := by
  have key : ∀ r : List El, ∃ D, r = D ++ r.dropWhile (fun e => isPen e.kind) ∧ Pens D := by
    intro r
    induction r with
    | nil => exact ⟨[], rfl, fun e he => absurd he List.not_mem_nil⟩
    | cons e r ih =>
      rw [List.dropWhile_cons]
      split
      · rename_i h
        obtain ⟨D, h1, h2⟩ := ih
        refine ⟨e :: D, by rw [List.cons_append, ← h1], fun u hu => ?_⟩
        rcases List.mem_cons.1 hu with rfl | hu
        · exact h
        · exact h2 u hu
      · exact ⟨[], rfl, fun e he => absurd he List.not_mem_nil⟩
  obtain ⟨D, h1, h2⟩ := key l.reverse
  refine ⟨D.reverse, ?_, fun e he => h2 e (List.mem_reverse.1 he)⟩
  have := congrArg List.reverse h1
  rw [List.reverse_reverse, List.reverse_append] at this
  exact this
theorem item_cases (s : St) (t : Tok) : itemS s t = s ∨ itemS s t = { s with els := dropP s.els } := by
  unfold itemS
  split
  · exact .inl rfl
  · split
    · exact .inr rfl
    · exact .inl rfl
/-- A closing brace closes the topmost block, if only pendings lie above it. -/
theorem step_close {s : St} {A Q : List El} {e : El} (h : NoI s.els) (hc : Calm s) (hs : s.els = A ++ e :: Q) (he : e.kind = 1) (hq : Pens Q) :
    ∃ s' x, (∀ f, tokenS s (exT 125) f = some s') ∧ s'.els = A ++ (if tx e.word bLet then [x] else []) ∧ x.kind = 7 ∧ x.word = ⟨#[]⟩ ∧ NoI s'.els ∧ Calm s' ∧ s'.out = s.out ++ [exT 125] := by
  have hi : ∃ Q', (itemS s (exT 125)).els = A ++ e :: Q' ∧ Pens Q' ∧ (itemS s (exT 125)).out = s.out ∧ Calm (itemS s (exT 125)) := by
    rcases item_cases s (exT 125) with h1 | h1
    · rw [h1]; exact ⟨Q, hs, hq, rfl, hc⟩
    · rw [h1]
      refine ⟨[], ?_, fun e he => absurd he List.not_mem_nil, rfl, hc⟩
      show dropP s.els = _
      rw [hs]
      exact drop_pens (by rw [he]; decide) hq
  obtain ⟨Q', h1, h2, h3, h4⟩ := hi
  obtain ⟨w, hcl⟩ := closeTo_of (p := isK 1) h1 (by unfold isK; rw [he]; rfl) (fun q hh => ⟨by
    unfold isK
    have := (pen_kind (h2 q hh)).2.2.1
    simpa using this, (pen_kind (h2 q hh)).1⟩)
  have hz : imp (e :: Q') = 0 := by
    unfold imp
    rw [List.countP_eq_zero]
    intro a ha
    rcases List.mem_cons.1 ha with rfl | ha
    · rw [he]; decide
    · have := (pen_kind (h2 a ha)).2.1
      simpa using this
  rw [hz, h3, h4.1, h4.2] at hcl
  have hA : NoI A := (hs ▸ h : NoI (A ++ e :: Q)).left
  let s0 : St := ⟨A, w, s.out ++ rep 0, false, ⟨#[]⟩⟩
  have hb : bracketS (itemS s (exT 125)) (exT 125) ⟨#[]⟩ = some (closedS s0 e.word) := by
    show closeB (itemS s (exT 125)) (isK 1) = _
    unfold closeB
    rw [hcl]; rfl
  have h0 : s0.out = s.out := List.append_nil _
  have ht : ∀ f, tokenS s (exT 125) f = some { closedS s0 e.word with out := (closedS s0 e.word).out ++ [exT 125] } := by
    intro f
    rw [token_calm h hc]
    unfold core
    rw [hb]
    rfl
  by_cases hl : tx e.word bLet = true
  · refine ⟨_, { elK 7 with blk := topB A, ctx := topC A }, ht, ?_, rfl, rfl, ?_, ?_, ?_⟩
    · unfold closedS; rw [if_pos hl, if_pos hl]; rfl
    · unfold closedS; rw [if_pos hl]
      intro u hu
      rcases List.mem_append.1 hu with hu | hu
      · exact hA u hu
      · rw [List.mem_singleton] at hu; subst hu; show (0 : Int) < 7; decide
    · unfold closedS; rw [if_pos hl]; exact ⟨rfl, rfl⟩
    · unfold closedS; rw [if_pos hl]
      show s0.out ++ _ = _
      rw [h0]
  · refine ⟨_, elK 7, ht, ?_, rfl, rfl, ?_, ?_, ?_⟩
    · unfold closedS; rw [if_neg hl, if_neg hl, List.append_nil]
    · unfold closedS; rw [if_neg hl]; exact hA
    · unfold closedS; rw [if_neg hl]; exact ⟨rfl, rfl⟩
    · unfold closedS; rw [if_neg hl]
      show s0.out ++ _ = _
      rw [h0]
theorem step_semi {s : St} (h : NoI s.els) (hc : Calm s) : ∀ f, tokenS s (exT 59) f = some { s with out := s.out ++ [exT 59] } := by
  intro f
  rw [token_calm h hc]
  have hi : itemS s (exT 59) = s := by
    unfold itemS
    split
    · rfl
    · rename_i u _
      have : (!spT (exT 59) [59]) = false := by decide
      rw [this, Bool.and_false]; rfl
  unfold core
  rw [hi]
  have : bracketS s (exT 59) ⟨#[]⟩ = some s := by
    show some (markS s false) = _
    rw [mark_no h]
  rw [this]
  rfl
/-- An opening brace, awaited, after a token that is no semicolon. -/
theorem step_open {s : St} (h : NoI s.els) (hi : itemS { s with exp := false, word := ⟨#[]⟩ } (exT 123) = { s with exp := false, word := ⟨#[]⟩ }) :
    ∀ f, tokenS s (exT 123) f = some { pushE { s with exp := false, word := ⟨#[]⟩ } ⟨1, 0, s.word, false, 0, 0⟩ with out := s.out ++ [exT 123] } := by
  intro f
  rw [token_no h (exT 123) f (fun _ => .inl (by decide)), hi]
  rfl
end Go.Proofs.Ythblchafjmgmbaa
