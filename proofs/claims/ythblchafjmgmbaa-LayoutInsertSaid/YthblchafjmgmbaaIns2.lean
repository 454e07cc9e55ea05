/-
  PLAIN. Of the layout algorithm: what is inserted is balanced; without it, the tokens are those that were given; Depth does not decrease.
-/
import Derived.Test.YthblchafjmgmbaaIns
namespace Go.Proofs.Ythblchafjmgmbaa
open Go.RowKit
/-- What a token counts among the inserted braces. -/
def bal1 (t : Tok) : Int := if t.auto && tx t.text [123] then 1 else if t.auto && tx t.text [125] then -1 else 0
def balL (l : List Tok) : Int := (l.map bal1).sum
def OkP (l : List Tok) : Prop := ∀ k, 0 ≤ balL (l.take k)
theorem bal_app (a b : List Tok) : balL (a ++ b) = balL a + balL b := by unfold balL; rw [List.map_append, List.sum_append]
theorem bal_one (t : Tok) : balL [t] = bal1 t := by unfold balL; simp
theorem OkP.snoc {l : List Tok} {t : Tok} (h : OkP l) (h2 : 0 ≤ balL l + bal1 t) : OkP (l ++ [t]) := by
  intro k
  by_cases hk : k ≤ l.length
  · rw [List.take_append_of_le_length hk]; exact h k
  · rw [List.take_of_length_le (by simp; omega), bal_app, bal_one]; exact h2
/-- How many implicit blocks are open. -/
def imp (l : List El) : Nat := l.countP (fun e => e.kind == 0)
theorem imp_app (a b : List El) : imp (a ++ b) = imp a + imp b := List.countP_append
theorem imp_one (e : El) : imp [e] = if e.kind == 0 then 1 else 0 := by unfold imp; simp [List.countP_cons]
theorem imp_mark (l : List El) (i : Int) (b : Bool) : imp (markAt l i b) = imp l := by
  unfold imp markAt
  generalize i.toNat = k
  induction l generalizing k with
  | nil => simp
  | cons e l ih =>
    cases k with
    | zero => simp [List.countP_cons]
    | succ k => rw [List.modify_succ_cons, List.countP_cons, List.countP_cons, ih k]
theorem imp_drop (l : List El) : imp (dropP l) = imp l := by
  have key : ∀ r : List El, imp (r.dropWhile (fun e => isPen e.kind)) = imp r := by
    intro r
    induction r with
    | nil => rfl
    | cons e r ih =>
      rw [List.dropWhile_cons]
      split
      · rename_i h
        rw [ih]
        have hk : (e.kind == 0) = false := by
          unfold isPen at h
          have : 3 < e.kind := by simpa using h
          simp; omega
        unfold imp
        rw [List.countP_cons, hk]; simp
      · rfl
  have rev : ∀ r : List El, imp r.reverse = imp r := fun r => by unfold imp; exact List.countP_reverse
  unfold dropP
  rw [rev, key, rev]
/-- The inserted tokens are all of one form. -/
def AutoI (l : List Tok) : Prop := ∀ t ∈ l, t.auto = true → ∃ b, t = insT b
structure Inv (s : St) (pre : List Tok) : Prop where
  ok : OkP s.out
  bal : balL s.out = imp s.els
  strip : stripL s.out = pre
  auto : AutoI s.out
theorem strip_app (a b : List Tok) : stripL (a ++ b) = stripL a ++ stripL b := List.filter_append a b
theorem AutoI.snoc {l : List Tok} {t : Tok} (h : AutoI l) (ht : t.auto = true → ∃ b, t = insT b) : AutoI (l ++ [t]) := by
  intro u hu
  rcases List.mem_append.1 hu with hu | hu
  · exact h u hu
  · rw [List.mem_singleton] at hu; subst hu; exact ht
theorem bal_ins (b : UInt8) : bal1 (insT b) = if b = 123 then 1 else if b = 125 then -1 else 0 := by
  unfold bal1 insT tx
  simp
theorem bal125 : bal1 (insT 125) = -1 := by rw [bal_ins]; rfl
theorem bal123 : bal1 (insT 123) = 1 := by rw [bal_ins]; rfl
theorem bal59 : bal1 (insT 59) = 0 := by rw [bal_ins]; rfl
theorem Inv.ins {s : St} {pre : List Tok} {b : UInt8} {els : List El} (h : Inv s pre) (he : (imp els : Int) = imp s.els + bal1 (insT b)) {w : Int} {x : Bool} {y : ByteArray} : Inv ⟨els, w, s.out ++ [insT b], x, y⟩ pre := by
  refine ⟨h.ok.snoc (by rw [h.bal, ← he]; omega), ?_, ?_, h.auto.snoc (fun _ => ⟨b, rfl⟩)⟩
  · show balL (s.out ++ [insT b]) = _
    rw [bal_app, bal_one, h.bal]; exact he.symm
  · show stripL (s.out ++ [insT b]) = _
    rw [strip_app, h.strip]; simp [stripL, insT]
theorem Inv.els {s : St} {pre : List Tok} {els : List El} (h : Inv s pre) (he : imp els = imp s.els) {w : Int} {x : Bool} {y : ByteArray} : Inv ⟨els, w, s.out, x, y⟩ pre :=
  ⟨h.ok, by show balL s.out = _; rw [h.bal, he], h.strip, h.auto⟩
theorem push_imp (s : St) (e : El) : imp (pushE s e).els = imp s.els + (if e.kind == 0 then 1 else 0) := by
  unfold pushE
  simp only
  rw [imp_app, imp_one]
theorem Inv.push {s : St} {pre : List Tok} {e : El} (h : Inv s pre) (he : e.kind ≠ 0) : Inv (pushE s e) pre := by
  have hk : (e.kind == 0) = false := by simpa using he
  have := push_imp s e
  rw [hk] at this
  exact h.els (this.trans (by simp))
theorem Inv.closed {s : St} {pre : List Tok} (h : Inv s pre) (w : ByteArray) : Inv (closedS s w) pre := by
  unfold closedS
  split
  · exact h.push (by decide)
  · exact h
theorem imp_last {l : List El} {e : El} (h : l.getLast? = some e) : imp l = imp l.dropLast + (if e.kind == 0 then 1 else 0) := by
  obtain ⟨ys, rfl⟩ := List.getLast?_eq_some_iff.1 h
  rw [List.dropLast_concat, imp_app, imp_one]
theorem Inv.closeN {n : Nat} : ∀ {s : St} {pre : List Tok} {e : El} {s' : St}, Inv s pre → closeN n s = some (e, s') → Inv s' pre := by
  induction n with
  | zero => intro s pre e s' _ h; cases h
  | succ n ih =>
    intro s pre e s' hI h
    unfold Go.Proofs.Ythblchafjmgmbaa.closeN at h
    cases hl : s.els.getLast? with
    | none => rw [hl] at h; cases h
    | some u =>
      rw [hl] at h
      simp only at h
      have hi := imp_last hl
      have hI2 : Inv (if u.kind == 0 then insS (popS s u) 125 else popS s u) pre := by
        by_cases hk : (u.kind == 0) = true
        · rw [if_pos hk]
          rw [if_pos hk] at hi
          exact Inv.ins (b := 125) (els := s.els.dropLast) hI (by rw [bal125]; omega)
        · rw [if_neg hk]
          rw [if_neg hk] at hi
          exact Inv.els (els := s.els.dropLast) hI (by omega)
      split at h
      · injection h with h
        rw [Prod.mk.injEq] at h
        rw [← h.2]; exact hI2
      · exact ih hI2 h
theorem Inv.closeTo {s : St} {pre : List Tok} {p : El → Bool} {r : El × St} (hI : Inv s pre) (h : closeTo s p = some r) : Inv r.2 pre := by
  unfold Go.Proofs.Ythblchafjmgmbaa.closeTo at h
  split at h
  · cases h
  · exact hI.closeN (e := r.1) (s' := r.2) h
theorem Inv.closeB {s : St} {pre : List Tok} {p : El → Bool} {s' : St} (hI : Inv s pre) (h : closeB s p = some s') : Inv s' pre := by
  unfold Go.Proofs.Ythblchafjmgmbaa.closeB at h
  cases hc : Go.Proofs.Ythblchafjmgmbaa.closeTo s p with
  | none => rw [hc] at h; cases h
  | some r =>
    rw [hc] at h
    injection h with h
    rw [← h]
    exact (hI.closeTo hc).closed _
theorem Inv.line {k : Nat} : ∀ {s : St} {pre : List Tok} {col : Int} {s' : St}, Inv s pre → lineS k s col = some s' → Inv s' pre := by
  induction k with
  | zero => intro s pre col s' hI h; injection h with h; rw [← h]; exact hI
  | succ k ih =>
    intro s pre col s' hI h
    unfold lineS at h
    split at h
    · injection h with h; rw [← h]; exact hI
    · split at h
      · injection h with h; rw [← h]; exact hI
      · split at h
        · injection h with h
          rw [← h]
          exact hI.ins (b := 59) (by rw [imp_mark, bal59]; omega)
        · split at h
          · cases h
          · rename_i hc
            exact ih (hI.closeB hc) h
theorem Inv.begin {s : St} {pre : List Tok} (hI : Inv s pre) (t : Tok) : Inv (beginS s t).2 pre := by
  unfold beginS
  split
  · exact hI
  split
  · exact hI
  simp only
  split
  · have h0 := push_imp (insS s 123) ⟨0, t.col, s.word, false, 0, 0⟩
    have h1 : imp (pushE (insS s 123) ⟨0, t.col, s.word, false, 0, 0⟩).els = imp s.els + 1 := h0.trans (by simp [insS])
    exact Inv.ins (b := 123) (els := (pushE (insS s 123) ⟨0, t.col, s.word, false, 0, 0⟩).els) hI (by rw [h1, bal123]; omega)
  · apply Inv.closed
    have hO : OkP (s.out ++ [insT 123]) := hI.ok.snoc (by rw [hI.bal, bal123]; omega)
    have hB : balL (s.out ++ [insT 123]) = imp s.els + 1 := by rw [bal_app, bal_one, hI.bal, bal123]
    refine ⟨?_, ?_, ?_, ?_⟩
    · exact hO.snoc (by rw [hB, bal125]; omega)
    · show balL (s.out ++ [insT 123] ++ [insT 125]) = _
      rw [bal_app, bal_one, hB, bal125]; simp only [insS]; omega
    · show stripL (s.out ++ [insT 123] ++ [insT 125]) = _
      rw [strip_app, strip_app, hI.strip]; simp [stripL, insT]
    · exact (hI.auto.snoc (fun _ => ⟨123, rfl⟩)).snoc (fun _ => ⟨125, rfl⟩)
theorem Inv.item {s : St} {pre : List Tok} (hI : Inv s pre) (t : Tok) : Inv (itemS s t) pre := by
  unfold itemS
  split
  · exact hI
  · split
    · exact hI.els (imp_drop _)
    · exact hI
theorem Inv.mark {s : St} {pre : List Tok} (hI : Inv s pre) (b : Bool) : Inv (markS s b) pre := by
  unfold markS
  split
  · exact hI
  · exact hI.els (imp_mark _ _ _)
theorem Inv.comma {k : Nat} : ∀ {s : St} {pre : List Tok}, Inv s pre → Inv (commaS k s) pre := by
  induction k with
  | zero => intro s pre hI; exact hI
  | succ k ih =>
    intro s pre hI
    unfold commaS
    split
    · split
      · exact hI
      · split
        · cases hc : Go.Proofs.Ythblchafjmgmbaa.closeB s (isK 0) with
          | none => exact ih hI
          | some s' => exact ih (hI.closeB hc)
        · exact hI
    · exact hI
theorem Inv.bracket {s s' : St} {pre : List Tok} {t : Tok} {w : ByteArray} (hI : Inv s pre) (h : bracketS s t w = some s') : Inv s' pre := by
  unfold bracketS at h
  have hI2 : Inv (if (t.op == 10) && tx t.text [61] then markS s true else s) pre := by
    split
    · exact hI.mark true
    · exact hI
  revert h hI2
  generalize (if (t.op == 10) && tx t.text [61] then markS s true else s) = z
  intro h hI2
  simp only at h
  split at h
  · split at h
    · injection h with h; rw [← h]; exact hI2.push (by decide)
    split at h
    · injection h with h; rw [← h]; exact hI2.push (by decide)
    split at h
    · injection h with h; rw [← h]; exact hI2.push (by simp)
    split at h
    · exact hI2.closeB h
    split at h
    · exact hI2.closeB h
    split at h
    · exact hI2.closeB h
    split at h
    · injection h with h; rw [← h]; exact hI2.comma
    split at h
    · injection h with h; rw [← h]; exact hI2.mark false
    · injection h with h; rw [← h]; exact hI2
  · injection h with h; rw [← h]; exact hI2
theorem Inv.key {s s' : St} {pre : List Tok} {t : Tok} (hI : Inv s pre) (h : keyS s t = some s') : Inv s' pre := by
  unfold keyS at h
  split at h
  · simp only at h
    have key : ∀ r : Option St, (∀ u, r = some u → Inv u pre) → (r.map fun s => if opens t then { s with exp := true, word := t.text } else s) = some s' → Inv s' pre := by
      intro r hr h
      cases r with
      | none => cases h
      | some u =>
        injection h with h
        rw [← h]
        split
        · exact (hr u rfl).els rfl
        · exact hr u rfl
    refine key _ (fun u hu => ?_) h
    have cl : ∀ {p : El → Bool} {u : St}, ((Go.Proofs.Ythblchafjmgmbaa.closeTo s p).map (·.2)) = some u → Inv u pre := by
      intro p u hu
      cases hc : Go.Proofs.Ythblchafjmgmbaa.closeTo s p with
      | none => rw [hc] at hu; cases hu
      | some r => rw [hc] at hu; injection hu with hu; rw [← hu]; exact hI.closeTo hc
    split at hu
    · injection hu with hu; rw [← hu]; exact hI.push (by decide)
    split at hu
    · injection hu with hu; rw [← hu]; exact hI.push (by decide)
    split at hu
    · exact cl hu
    split at hu
    · cases hc : Go.Proofs.Ythblchafjmgmbaa.closeTo s (isK 5) with
      | none => rw [hc] at hu; cases hu
      | some r => rw [hc] at hu; injection hu with hu; rw [← hu]; exact (hI.closeTo hc).push (by decide)
    split at hu
    · exact cl hu
    split at hu
    · exact cl hu
    · injection hu with hu; rw [← hu]; exact hI
  · injection h with h; rw [← h]; exact hI
theorem Inv.tok {s s' : St} {pre : List Tok} {t : Tok} {f : Bool} (hI : Inv s pre) (ht : t.auto = false) (h : tokenS s t f = some s') : Inv s' (pre ++ [t]) := by
  unfold tokenS at h
  simp only at h
  have hB : Inv (if s.exp then beginS s t else (false, s)).2 pre := by
    split
    · exact hI.begin t
    · exact hI
  revert h hB
  generalize (if s.exp then beginS s t else (false, s)) = b
  intro h hB
  have h1 : Inv { b.2 with exp := false, word := ⟨#[]⟩ } pre := hB.els rfl
  split at h
  · cases h
  · rename_i s2 hs2
    have h2 : Inv s2 pre := by
      split at hs2
      · exact h1.line hs2
      · injection hs2 with hs2; rw [← hs2]; exact h1
    split at h
    · cases h
    · rename_i s3 hs3
      have h3 := (h2.item t).bracket hs3
      cases hk : keyS s3 t with
      | none => rw [hk] at h; cases h
      | some s4 =>
        rw [hk] at h
        injection h with h
        have h4 := h3.key hk
        have hb : bal1 t = 0 := by unfold bal1; rw [ht]; simp
        rw [← h]
        refine ⟨h4.ok.snoc (by rw [h4.bal, hb]; omega), ?_, ?_, h4.auto.snoc (fun hh => by rw [ht] at hh; cases hh)⟩
        · show balL (s4.out ++ [t]) = _
          rw [bal_app, bal_one, hb, h4.bal]; simp
        · show stripL (s4.out ++ [t]) = _
          rw [strip_app, h4.strip]; simp [stripL, ht]
/-- What a result keeps. -/
structure Res (out pre : List Tok) : Prop where
  ok : OkP out
  bal : balL out = 0
  strip : stripL out = pre
  auto : AutoI out
theorem end_res (r : List El) : ∀ {inside : Bool} {out l pre : List Tok}, OkP out → balL out = imp r → stripL out = pre → AutoI out → endE r inside out = some l → Res l pre := by
  induction r with
  | nil => intro i out l pre h1 h2 h3 h4 h; injection h with h; rw [← h]; exact ⟨h1, by rw [h2]; rfl, h3, h4⟩
  | cons e r ih =>
    intro i out l pre h1 h2 h3 h4 h
    have hc : imp (e :: r) = imp r + (if e.kind == 0 then 1 else 0) := by unfold imp; rw [List.countP_cons]
    unfold endE at h
    split at h
    · rename_i hk
      have : (e.kind == 0) = false := by simp at hk ⊢; omega
      rw [this] at hc
      exact ih h1 (by rw [h2, hc]; simp) h3 h4 h
    · split at h
      · rename_i hk
        rw [if_pos hk] at hc
        split at h
        · cases h
        · refine ih (h1.snoc (by rw [h2, hc, bal125]; omega)) ?_ ?_ (h4.snoc (fun _ => ⟨125, rfl⟩)) h
          · rw [bal_app, bal_one, h2, hc, bal125]; omega
          · rw [strip_app, h3]; simp [stripL, insT]
      · rename_i hk
        rw [if_neg hk] at hc
        exact ih h1 (by rw [h2, hc]; simp) h3 h4 h
theorem insF_res (l : List Tok) : ∀ {last : Option Tok} {s : St} {pre r : List Tok}, Inv s pre → (∀ t ∈ l, t.auto = false) → insF l last s = .ok r → Res r (pre ++ l) := by
  induction l with
  | nil =>
    intro last s pre r hI _ h
    unfold insF at h
    cases he : endS s with
    | none => rw [he] at h; cases last <;> simp [fltT] at h
    | some x =>
      rw [he] at h
      simp only at h
      split at h
      · cases h
      · injection h with h
        subst h
        rw [List.append_nil]
        unfold endS at he
        have rev : imp s.els.reverse = imp s.els := by unfold imp; exact List.countP_reverse
        split at he
        · have hO : OkP (s.out ++ [insT 123]) := hI.ok.snoc (by rw [hI.bal, bal123]; omega)
          have hB : balL (s.out ++ [insT 123]) = imp s.els + 1 := by rw [bal_app, bal_one, hI.bal, bal123]
          have e2 : s.out ++ [insT 123, insT 125] = s.out ++ [insT 123] ++ [insT 125] := by simp
          rw [e2] at he
          refine end_res _ (hO.snoc (by rw [hB, bal125]; omega)) ?_ ?_ ((hI.auto.snoc (fun _ => ⟨123, rfl⟩)).snoc (fun _ => ⟨125, rfl⟩)) he
          · rw [bal_app, bal_one, hB, bal125, rev]; omega
          · rw [strip_app, strip_app, hI.strip]; simp [stripL, insT]
        · exact end_res _ hI.ok (by rw [hI.bal, rev]) hI.strip hI.auto he
  | cons t l ih =>
    intro last s pre r hI ha h
    unfold insF at h
    split at h
    · cases h
    · rename_i s' hs'
      have := ih (hI.tok (ha t (List.mem_cons_self ..)) hs') (fun u hu => ha u (List.mem_cons_of_mem _ hu)) h
      rwa [List.append_assoc, List.singleton_append] at this
/-- What Insert answers: balanced; stripped, it is the argument. -/
theorem insP_res {l r : List Tok} (h : insP l = .ok r) : Res r l := by
  unfold insP at h
  split at h
  · cases h
  · rename_i ha
    have hI : Inv ⟨[], 0, [], true, ⟨#[]⟩⟩ [] := ⟨fun k => by simp [balL], rfl, rfl, fun t ht => absurd ht List.not_mem_nil⟩
    have := insF_res l hI (fun t ht => by
      cases hta : t.auto
      · rfl
      · exact absurd (List.any_eq_true.2 ⟨t, ht, hta⟩) ha) h
    rwa [List.nil_append] at this
/-- Depth, from a beginning on. -/
theorem dep_mono (l : List Tok) : ∀ (a b x y : Int), a ≤ b → x ≤ y → AutoI l → (∀ k, 0 ≤ (y - x) + balL (l.take k)) → (List.foldl dep1 (a, x) (stripL l)).1 ≤ (List.foldl dep1 (b, y) l).1 := by
  induction l with
  | nil => intro a b x y h _ _ _; exact h
  | cons t l ih =>
    intro a b x y hab hxy hA hk
    have hA' : AutoI l := fun u hu => hA u (List.mem_cons_of_mem _ hu)
    have hk1 := hk 1
    have hk' : ∀ k, 0 ≤ (y - x) + bal1 t + balL (l.take k) := fun k => by
      have := hk (k + 1)
      rw [List.take_succ_cons, show t :: l.take k = [t] ++ l.take k from rfl, bal_app, bal_one] at this
      omega
    rw [List.take_succ_cons, List.take_zero, bal_one] at hk1
    cases ht : t.auto
    · have hs : stripL (t :: l) = t :: stripL l := by unfold stripL; rw [List.filter_cons, ht]; rfl
      have hb : bal1 t = 0 := by unfold bal1; rw [ht]; simp
      rw [hs, List.foldl_cons, List.foldl_cons]
      unfold dep1
      simp only
      split
      · exact ih _ _ _ _ (by omega) (by omega) hA' (fun k => by have := hk' k; omega)
      · split
        · exact ih _ _ _ _ (by omega) (by omega) hA' (fun k => by have := hk' k; omega)
        · exact ih _ _ _ _ (by omega) (by omega) hA' (fun k => by have := hk' k; omega)
    · have hs : stripL (t :: l) = stripL l := by unfold stripL; rw [List.filter_cons, ht]; rfl
      obtain ⟨b', rfl⟩ := hA t (List.mem_cons_self ..) ht
      rw [hs, List.foldl_cons]
      rw [bal_ins] at hk1 hk'
      unfold dep1
      have e1 : spT (insT b') [123] = decide (b' = 123) := by rw [Bool.eq_iff_iff]; unfold spT insT tx; simp
      have e2 : spT (insT b') [125] = decide (b' = 125) := by rw [Bool.eq_iff_iff]; unfold spT insT tx; simp
      simp only [e1, e2]
      by_cases h1 : b' = 123
      · subst h1
        simp only [decide_true, if_true] at hk' ⊢
        exact ih _ _ _ _ (by omega) (by omega) hA' (fun k => by have := hk' k; omega)
      · rw [decide_eq_false h1]
        rw [if_neg h1] at hk1 hk'
        by_cases h2 : b' = 125
        · subst h2
          simp only [decide_true, if_true, Bool.false_eq_true, if_false] at hk1 hk' ⊢
          exact ih _ _ _ _ (by omega) (by omega) hA' (fun k => by have := hk' k; omega)
        · rw [decide_eq_false h2]
          rw [if_neg h2] at hk1 hk'
          simp only [Bool.false_eq_true, if_false]
          exact ih _ _ _ _ (by omega) (by omega) hA' (fun k => by have := hk' k; omega)
/-- Depth does not decrease. -/
theorem insP_dep {l r : List Tok} (h : insP l = .ok r) : depL l ≤ depL r := by
  have hR := insP_res h
  have := dep_mono r 0 0 0 0 (Int.le_refl _) (Int.le_refl _) hR.auto (fun k => by have := hR.ok k; omega)
  rw [hR.strip] at this
  exact this
end Go.Proofs.Ythblchafjmgmbaa
