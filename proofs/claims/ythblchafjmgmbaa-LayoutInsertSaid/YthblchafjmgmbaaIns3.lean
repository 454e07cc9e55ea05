/-
  PLAIN. Of the layout algorithm: how a stack is closed down to an element; how tokens run where no block is implicit.
-/
import Derived.Test.YthblchafjmgmbaaIns2
namespace Go.Proofs.Ythblchafjmgmbaa
open Go.RowKit
def rep (n : Nat) : List Tok := List.replicate n (insT 125)
theorem rep_succ (n : Nat) : insT 125 :: rep n = rep n ++ [insT 125] := by unfold rep; rw [← List.replicate_succ, List.replicate_succ']
theorem closeN_spec (n : Nat) : ∀ (s : St) (A : List El) (e : El) (Q : List El), s.els = A ++ e :: Q → n = Q.length + 1 →
    ∃ w, closeN n s = some (e, ⟨A, w, s.out ++ rep (imp (e :: Q)), s.exp, s.word⟩) := by
  induction n with
  | zero => intro s A e Q _ h; omega
  | succ n ih =>
    intro s A e Q hs hn
    unfold closeN
    rcases List.eq_nil_or_concat Q with rfl | ⟨Q', q, rfl⟩
    · have hl : s.els.getLast? = some e := by rw [hs]; simp
      have hd : s.els.dropLast = A := by rw [hs]; exact List.dropLast_concat
      rw [hl]
      simp only
      rw [if_pos (by simpa using hn)]
      have hi : imp [e] = if e.kind == 0 then 1 else 0 := imp_one e
      by_cases hk : (e.kind == 0) = true
      · rw [if_pos hk] at hi ⊢
        refine ⟨(popS s e).written, ?_⟩
        rw [hi]
        unfold insS popS
        rw [hd]
        rfl
      · rw [if_neg hk] at hi ⊢
        refine ⟨(popS s e).written, ?_⟩
        rw [hi]
        unfold popS
        rw [hd]
        simp [rep]
    · rw [List.concat_eq_append] at hs hn ⊢
      have hs' : s.els = (A ++ e :: Q') ++ [q] := by rw [hs]; simp
      have hl : s.els.getLast? = some q := by rw [hs']; exact List.getLast?_concat
      have hd : s.els.dropLast = A ++ e :: Q' := by rw [hs']; exact List.dropLast_concat
      rw [hl]
      simp only
      rw [if_neg (by simp at hn; omega)]
      have hi : imp (e :: (Q' ++ [q])) = imp (e :: Q') + imp [q] := by rw [← List.cons_append, imp_app]
      rw [hi, imp_one]
      by_cases hk : (q.kind == 0) = true
      · rw [if_pos hk, if_pos hk]
        obtain ⟨w, h⟩ := ih (insS (popS s q) 125) A e Q' hd (by simp at hn; omega)
        refine ⟨w, ?_⟩
        rw [h]
        congr 2
        show (⟨A, w, (s.out ++ [insT 125]) ++ rep (imp (e :: Q')), s.exp, s.word⟩ : St) = _
        congr 1
        unfold rep
        rw [List.append_assoc, List.replicate_succ]
        rfl
      · rw [if_neg hk, if_neg hk]
        obtain ⟨w, h⟩ := ih (popS s q) A e Q' hd (by simp at hn; omega)
        exact ⟨w, h⟩
theorem findR_spec (p : El → Bool) (L : List El) : ∀ k, findR p L = some k → ∃ U e D, L = U ++ e :: D ∧ p e = true ∧ (∀ u ∈ U, p u = false ∧ isWri u.kind = false) ∧ k = D.length := by
  induction L with
  | nil => intro k h; cases h
  | cons a L ih =>
    intro k h
    unfold findR at h
    split at h
    · rename_i hp
      injection h with h
      exact ⟨[], a, L, rfl, hp, fun u hu => absurd hu List.not_mem_nil, h.symm⟩
    · rename_i hp
      split at h
      · cases h
      · rename_i hw
        obtain ⟨U, e, D, h1, h2, h3, h4⟩ := ih k h
        refine ⟨a :: U, e, D, by rw [h1]; rfl, h2, fun u hu => ?_, h4⟩
        rcases List.mem_cons.1 hu with rfl | hu
        · exact ⟨by simpa using hp, by simpa using hw⟩
        · exact h3 u hu
theorem findR_of (p : El → Bool) (U : List El) : ∀ (e : El) (D : List El), p e = true → (∀ u ∈ U, p u = false ∧ isWri u.kind = false) → findR p (U ++ e :: D) = some D.length := by
  induction U with
  | nil => intro e D he _; show findR p (e :: D) = _; unfold findR; rw [if_pos he]
  | cons a U ih =>
    intro e D he hu
    obtain ⟨h1, h2⟩ := hu a (List.mem_cons_self ..)
    show findR p (a :: (U ++ e :: D)) = _
    unfold findR
    rw [h1, h2]
    simp only [Bool.false_eq_true, if_false]
    exact ih e D he (fun u hh => hu u (List.mem_cons_of_mem _ hh))
/-- Closing, as it is: the elements A stay, e is the wanted one, Q lies above it. -/
theorem closeTo_spec {s : St} {p : El → Bool} {e : El} {s' : St} (h : closeTo s p = some (e, s')) :
    ∃ A Q, s.els = A ++ e :: Q ∧ p e = true ∧ (∀ q ∈ Q, p q = false ∧ isWri q.kind = false) ∧ s'.els = A ∧ s'.out = s.out ++ rep (imp (e :: Q)) ∧ s'.exp = s.exp ∧ s'.word = s.word := by
  unfold closeTo at h
  split at h
  · cases h
  · rename_i k hk
    obtain ⟨U, e0, D, h1, h2, h3, h4⟩ := findR_spec p _ k hk
    have hs : s.els = D.reverse ++ e0 :: U.reverse := by
      have := congrArg List.reverse h1
      rw [List.reverse_reverse, List.reverse_append, List.reverse_cons] at this
      rw [this]; simp
    obtain ⟨w, hc⟩ := closeN_spec (s.els.length - k) s D.reverse e0 U.reverse hs (by rw [hs, h4]; simp)
    rw [hc] at h
    injection h with h
    rw [Prod.mk.injEq] at h
    obtain ⟨rfl, rfl⟩ := h
    exact ⟨D.reverse, U.reverse, hs, h2, fun q hq => h3 q (List.mem_reverse.1 hq), rfl, rfl, rfl, rfl⟩
theorem closeTo_of {s : St} {p : El → Bool} {A Q : List El} {e : El} (hs : s.els = A ++ e :: Q) (he : p e = true) (hq : ∀ q ∈ Q, p q = false ∧ isWri q.kind = false) :
    ∃ w, closeTo s p = some (e, ⟨A, w, s.out ++ rep (imp (e :: Q)), s.exp, s.word⟩) := by
  have hf : findR p s.els.reverse = some A.length := by
    have : s.els.reverse = Q.reverse ++ e :: A.reverse := by rw [hs]; simp
    rw [this, findR_of p Q.reverse e A.reverse he (fun u hu => hq u (List.mem_reverse.1 hu))]
    simp
  unfold closeTo
  rw [hf]
  simp only
  exact closeN_spec _ s A e Q hs (by rw [hs]; simp)
/-- No block is implicit. -/
def NoI (l : List El) : Prop := ∀ e ∈ l, 0 < e.kind
theorem NoI.imp {l : List El} (h : NoI l) : imp l = 0 := by
  unfold Go.Proofs.Ythblchafjmgmbaa.imp
  rw [List.countP_eq_zero]
  intro e he
  have := h e he
  simp; omega
theorem NoI.left {a b : List El} (h : NoI (a ++ b)) : NoI a := fun e he => h e (List.mem_append_left _ he)
theorem NoI.right {a b : List El} (h : NoI (a ++ b)) : NoI b := fun e he => h e (List.mem_append_right _ he)
theorem implAt_no {l : List El} (h : NoI l) (a : Int) : implAt l a = none := by
  unfold implAt
  split
  · rfl
  · cases hl : l[a.toNat]? with
    | none => rfl
    | some e =>
      have := h e (List.mem_of_getElem? hl)
      simp only
      rw [if_neg (by simp; omega)]
theorem line_no {s : St} (h : NoI s.els) (k : Nat) (c : Int) : lineS k s c = some s := by
  cases k with
  | zero => rfl
  | succ k => unfold lineS; rw [implAt_no h]
theorem mark_no {s : St} (h : NoI s.els) (b : Bool) : markS s b = s := by unfold markS; rw [implAt_no h]
theorem comma_no {s : St} (h : NoI s.els) (k : Nat) : commaS k s = s := by
  cases k with
  | zero => rfl
  | succ k => unfold commaS; rw [implAt_no h]; split <;> rfl
/-- A token where no block is implicit, and where, if a block is expected, it begins with a brace. -/
theorem token_no {s : St} (h : NoI s.els) (t : Tok) (f : Bool) (hx : s.exp = true → spT t [123] = true ∨ (s.word.data.toList.isEmpty && wdT t bModule) = true) :
    tokenS s t f = match bracketS (itemS { s with exp := false, word := ⟨#[]⟩ } t) t s.word with
      | none => none
      | some s3 => (keyS s3 t).map fun s4 => { s4 with out := s4.out ++ [t] } := by
  have hb : (if s.exp then beginS s t else (false, s)).2 = s := by
    cases he : s.exp
    · rfl
    · simp only [if_true]
      unfold beginS
      rcases hx he with h1 | h1
      · rw [if_pos h1]
      · split
        · rfl
        · first | rfl | rw [if_pos h1]
  unfold tokenS
  simp only
  rw [hb]
  have hl : ∀ b : Bool, (if b = true then lineS (s.els.length + 1) { s with exp := false, word := ⟨#[]⟩ } t.col else some { s with exp := false, word := ⟨#[]⟩ }) = some ({ s with exp := false, word := ⟨#[]⟩ } : St) := by
    intro b
    cases b
    · rfl
    · exact line_no (s := { s with exp := false, word := ⟨#[]⟩ }) h _ _
  rw [hl]
  rfl
end Go.Proofs.Ythblchafjmgmbaa
