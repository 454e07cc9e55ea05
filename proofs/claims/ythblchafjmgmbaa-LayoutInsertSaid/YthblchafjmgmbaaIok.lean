/-
  PLAIN. What holds of the inserter's state at every step: the positions in the stack, the number of written elements, the sizes.
-/
import Derived.Test.YthblchafjmgmbaaLir3
namespace Go.Proofs.Ythblchafjmgmbaa
open Go.RowKit
def Bd (l : List El) : Prop := ∀ (i : Nat) (e : El), l[i]? = some e → e.blk ≤ i ∧ e.ctx ≤ i
def wgt (e : El) : Nat := if e.kind == 0 then 3 else 1
def phiE (l : List El) : Nat := (l.map wgt).sum
def Phi (s : St) : Nat := s.out.length + phiE s.els
theorem wgt_pos (e : El) : 1 ≤ wgt e := by unfold wgt; split <;> omega
theorem phiE_app (a b : List El) : phiE (a ++ b) = phiE a + phiE b := by unfold phiE; rw [List.map_append, List.sum_append]
theorem phiE_one (e : El) : phiE [e] = wgt e := by unfold phiE; simp
theorem phiE_len (l : List El) : l.length ≤ phiE l := by
  induction l with
  | nil => exact Nat.zero_le _
  | cons e l ih =>
    have := wgt_pos e
    have h : phiE (e :: l) = wgt e + phiE l := by unfold phiE; simp
    rw [h, List.length_cons]; omega
structure Ok (k : Nat) (s : St) : Prop where
  bd : Bd s.els
  wr : wrOk s
  sz : Phi s + k ≤ 1000000000000
  wf : WfR s.els.reverse
theorem Ok.less {k k' : Nat} {s : St} (h : Ok k s) (hk : k' ≤ k) : Ok k' s := ⟨h.bd, h.wr, by have := h.sz; omega, h.wf⟩
theorem Ok.els_le {k : Nat} {s : St} (h : Ok k s) : s.els.length + k ≤ 1000000000000 := by have := h.sz; have := phiE_len s.els; unfold Phi at this; have h2 := h.sz; unfold Phi at h2; omega
theorem Ok.out_le {k : Nat} {s : St} (h : Ok k s) : s.out.length + k ≤ 1000000000000 := by have h2 := h.sz; unfold Phi at h2; omega
theorem Ok.wr0 {k : Nat} {s : St} (h : Ok k s) : 0 ≤ s.written ∧ s.written ≤ s.els.length := by
  have h2 := h.wr
  unfold wrOk at h2
  rw [h2]
  exact ⟨Int.natCast_nonneg _, Int.ofNat_le.2 List.countP_le_length⟩
theorem Bd.left {a b : List El} (h : Bd (a ++ b)) : Bd a := fun i e he => h i e (by
  have hlt : i < a.length := (List.getElem?_eq_some_iff.1 he).1
  rw [List.getElem?_append_left hlt]; exact he)
theorem Bd.last {l : List El} (h : Bd l) : topB l < l.length ∧ topC l < l.length := by
  unfold topB topC
  cases hl : l.getLast? with
  | none => simp only; omega
  | some e =>
    simp only
    obtain ⟨ys, rfl⟩ := List.getLast?_eq_some_iff.1 hl
    have := h ys.length e (by simp)
    simp only [List.length_append, List.length_singleton]
    omega
theorem Bd.snoc {l : List El} {e : El} (h : Bd l) (h1 : e.blk ≤ l.length) (h2 : e.ctx ≤ l.length) : Bd (l ++ [e]) := by
  intro i u hu
  rcases Nat.lt_trichotomy i l.length with hi | hi | hi
  · rw [List.getElem?_append_left hi] at hu; exact h i u hu
  · subst hi
    rw [List.getElem?_append_right (Nat.le_refl _)] at hu
    simp at hu
    rw [← hu]; exact ⟨h1, h2⟩
  · rw [List.getElem?_eq_none (by simp; omega)] at hu; cases hu
theorem Bd.mark {l : List El} (h : Bd l) (i : Int) (b : Bool) : Bd (markAt l i b) := by
  intro j u hu
  unfold markAt at hu
  rw [List.getElem?_modify] at hu
  cases hj : l[j]? with
  | none => rw [hj] at hu; cases hu
  | some e =>
    rw [hj] at hu
    have := h j e hj
    simp only [Option.map_eq_map, Option.map_some, Option.some.injEq] at hu
    rw [← hu]
    split <;> exact this
theorem phi_mark (l : List El) (i : Nat) (b : Bool) : phiE (l.modify i (fun e => { e with marked := b })) = phiE l := by
  unfold phiE
  congr 1
  apply List.ext_getElem?
  intro j
  rw [List.getElem?_map, List.getElem?_map, List.getElem?_modify]
  cases l[j]? with
  | none => rfl
  | some e => simp only [Option.map_eq_map, Option.map_some]; split <;> rfl
theorem cnt_mark (l : List El) (i : Nat) (b : Bool) : (l.modify i (fun e => { e with marked := b })).countP (fun e => isWri e.kind) = l.countP (fun e => isWri e.kind) := by
  have h : ∀ l : List El, l.countP (fun e => isWri e.kind) = (l.map (fun e => e.kind)).countP isWri := fun l => by rw [List.countP_map]; rfl
  rw [h, h]
  congr 1
  apply List.ext_getElem?
  intro j
  rw [List.getElem?_map, List.getElem?_map, List.getElem?_modify]
  cases l[j]? with
  | none => rfl
  | some e => simp only [Option.map_eq_map, Option.map_some]; split <;> rfl
theorem Ok.marked {k : Nat} {s : St} (h : Ok k s) (i : Int) (b : Bool) : Ok k { s with els := markAt s.els i b } :=
  ⟨h.bd.mark i b, by have := h.wr; unfold wrOk at this ⊢; show s.written = _; rw [this]; unfold markAt; rw [cnt_mark], by have h2 := h.sz; unfold Phi at h2 ⊢; show s.out.length + phiE (markAt s.els i b) + k ≤ _; unfold markAt; rw [phi_mark]; exact h2, WfR.same _ h.wf (by show s.els.reverse.map g3 = (markAt s.els i b).reverse.map g3; unfold markAt; rw [List.map_reverse, List.map_reverse, mark_g])⟩
theorem Ok.flags {k : Nat} {s : St} (h : Ok k s) (x : Bool) (w : ByteArray) : Ok k { s with exp := x, word := w } := ⟨h.bd, h.wr, h.sz, h.wf⟩
theorem Ok.ins {k : Nat} {s : St} {b : UInt8} (h : Ok (k + 1) s) : Ok k (insS s b) :=
  ⟨h.bd, h.wr, by have h2 := h.sz; unfold Phi at h2 ⊢; show (s.out ++ [insT b]).length + phiE s.els + k ≤ _; simp only [List.length_append, List.length_singleton]; omega, h.wf⟩
theorem Ok.tok {k : Nat} {s : St} {t : Tok} (h : Ok (k + 1) s) : Ok k { s with out := s.out ++ [t] } :=
  ⟨h.bd, h.wr, by have h2 := h.sz; unfold Phi at h2 ⊢; show (s.out ++ [t]).length + phiE s.els + k ≤ _; simp only [List.length_append, List.length_singleton]; omega, h.wf⟩
theorem Ok.push {k : Nat} {s : St} {e : El} (h : Ok (k + wgt e) s) : Ok k (pushE s e) := by
  have hl := h.bd.last
  refine ⟨?_, ?_, ?_, ?_⟩
  · refine h.bd.snoc ?_ ?_
    · show (if isBlk e.kind = true then (s.els.length : Int) else topB s.els) ≤ _
      split <;> omega
    · show (if isCtx e.kind = true then (s.els.length : Int) else topC s.els) ≤ _
      split <;> omega
  · have h2 := h.wr
    unfold wrOk at h2 ⊢
    show (if isWri e.kind = true then s.written + 1 else s.written) = ((s.els ++ [_]).countP _ : Nat)
    rw [List.countP_append, List.countP_singleton, h2]
    show _ = (((_ + if isWri e.kind = true then 1 else 0 : Nat)) : Int)
    split <;> simp
  · have h2 := h.sz
    unfold Phi at h2 ⊢
    show s.out.length + phiE (s.els ++ [_]) + k ≤ _
    rw [phiE_app, phiE_one]
    have : wgt { e with blk := if isBlk e.kind then (s.els.length : Int) else topB s.els, ctx := if isCtx e.kind then (s.els.length : Int) else topC s.els } = wgt e := rfl
    rw [this]; omega
  · show WfR (s.els ++ [_]).reverse
    rw [List.reverse_append]
    refine ⟨?_, ?_, h.wf⟩
    · show (if isBlk e.kind = true then (s.els.length : Int) else topB s.els) = if isBlk e.kind = true then (s.els.reverse.length : Int) else lix _ s.els.reverse
      rw [topB_eq h.wf, List.length_reverse]
    · show (if isCtx e.kind = true then (s.els.length : Int) else topC s.els) = if isCtx e.kind = true then (s.els.reverse.length : Int) else lix _ s.els.reverse
      rw [topC_eq h.wf, List.length_reverse]
theorem Ok.push1 {k : Nat} {s : St} {e : El} (h : Ok (k + 1) s) (he : (e.kind == 0) = false) : Ok k (pushE s e) := Ok.push (by unfold wgt; rw [he]; exact h)
theorem Ok.push3 {k : Nat} {s : St} {e : El} (h : Ok (k + 3) s) : Ok k (pushE s e) := Ok.push (h.less (by unfold wgt; split <;> omega))
theorem Ok.pop {k : Nat} {s : St} {e : El} (h : Ok k s) (hl : s.els.getLast? = some e) : Ok (k + wgt e) (popS s e) := by
  refine ⟨?_, pop_wr h.wr hl, ?_, ?_⟩
  · obtain ⟨ys, hys⟩ := List.getLast?_eq_some_iff.1 hl
    have := h.bd
    rw [hys] at this
    show Bd s.els.dropLast
    rw [hys, List.dropLast_concat]
    exact this.left
  · obtain ⟨ys, hys⟩ := List.getLast?_eq_some_iff.1 hl
    have h2 := h.sz
    unfold Phi at h2 ⊢
    show s.out.length + phiE s.els.dropLast + (k + wgt e) ≤ _
    rw [hys, phiE_app, phiE_one] at h2
    rw [hys, List.dropLast_concat]; omega
  · obtain ⟨ys, hys⟩ := List.getLast?_eq_some_iff.1 hl
    have h2 := h.wf
    rw [hys, List.reverse_append] at h2
    show WfR s.els.dropLast.reverse
    rw [hys, List.dropLast_concat]
    exact h2.2.2
theorem Ok.popIns {k : Nat} {s : St} {e : El} (h : Ok k s) (hl : s.els.getLast? = some e) : Ok (k + 1) (if e.kind == 0 then insS (popS s e) 125 else popS s e) := by
  have h2 := h.pop hl
  unfold wgt at h2
  by_cases hk : (e.kind == 0) = true
  · rw [if_pos hk] at h2 ⊢
    exact (h2.less (by omega : k + 1 + 1 ≤ k + 3)).ins
  · rw [if_neg hk] at h2 ⊢
    exact h2
theorem Ok.closeN {n : Nat} : ∀ {k : Nat} {s : St} {e : El} {s' : St}, Ok k s → closeN n s = some (e, s') → Ok (k + 1) s' := by
  induction n with
  | zero => intro k s e s' _ h; cases h
  | succ n ih =>
    intro k s e s' hI h
    unfold Go.Proofs.Ythblchafjmgmbaa.closeN at h
    cases hl : s.els.getLast? with
    | none => rw [hl] at h; cases h
    | some u =>
      rw [hl] at h
      simp only at h
      have hI2 := hI.popIns hl
      split at h
      · injection h with h
        rw [Prod.mk.injEq] at h
        rw [← h.2]; exact hI2
      · exact (ih hI2 h).less (by omega)
theorem Ok.closeTo {k : Nat} {s : St} {p : El → Bool} {r : El × St} (hI : Ok k s) (h : closeTo s p = some r) : Ok (k + 1) r.2 := by
  unfold Go.Proofs.Ythblchafjmgmbaa.closeTo at h
  split at h
  · cases h
  · exact hI.closeN (e := r.1) (s' := r.2) h
theorem Ok.closed {k : Nat} {s : St} (h : Ok (k + 1) s) (w : ByteArray) : Ok k (closedS s w) := by
  unfold closedS
  split
  · exact h.push1 (by decide)
  · exact h.less (by omega)
theorem Ok.closeB {k : Nat} {s : St} {p : El → Bool} {s' : St} (hI : Ok k s) (h : closeB s p = some s') : Ok k s' := by
  unfold Go.Proofs.Ythblchafjmgmbaa.closeB at h
  cases hc : Go.Proofs.Ythblchafjmgmbaa.closeTo s p with
  | none => rw [hc] at h; cases h
  | some r =>
    rw [hc] at h
    injection h with h
    rw [← h]
    exact (hI.closeTo hc).closed _
theorem Ok.line {n : Nat} : ∀ {k : Nat} {s : St} {col : Int} {s' : St}, Ok (k + 1) s → lineS n s col = some s' → Ok k s' := by
  induction n with
  | zero => intro k s col s' hI h; injection h with h; rw [← h]; exact hI.less (by omega)
  | succ n ih =>
    intro k s col s' hI h
    unfold lineS at h
    split at h
    · injection h with h; rw [← h]; exact hI.less (by omega)
    · split at h
      · injection h with h; rw [← h]; exact hI.less (by omega)
      · split at h
        · injection h with h
          rw [← h]
          exact (hI.ins (b := 59)).marked _ _
        · split at h
          · cases h
          · rename_i hc
            exact ih (hI.closeB hc) h
theorem Ok.begin {k : Nat} {s : St} (hI : Ok (k + 4) s) (t : Tok) : Ok k (beginS s t).2 := by
  unfold beginS
  split
  · exact hI.less (by omega)
  split
  · exact hI.less (by omega)
  simp only
  split
  · exact (Ok.ins (b := 123) (k := k + 3) hI).push3
  · exact ((Ok.ins (b := 125) (k := k + 2) (Ok.ins (b := 123) (k := k + 3) hI)).less (by omega)).closed _
theorem drop_app (l : List El) : ∃ B, l = dropP l ++ B ∧ ∀ e ∈ B, isPen e.kind = true := by
  refine ⟨(l.reverse.takeWhile (fun e => isPen e.kind)).reverse, ?_, fun e he => ?_⟩
  · unfold dropP
    rw [← List.reverse_append, List.takeWhile_append_dropWhile, List.reverse_reverse]
  · rw [List.mem_reverse] at he
    exact List.all_eq_true.1 (List.all_takeWhile (p := fun e : El => isPen e.kind) (l := l.reverse)) e he
theorem Ok.drop {k : Nat} {s : St} (h : Ok k s) : Ok k { s with els := dropP s.els } := by
  obtain ⟨B, hB, hp⟩ := drop_app s.els
  refine ⟨?_, ?_, ?_, ?_⟩
  · have := h.bd
    rw [hB] at this
    exact this.left
  · have := h.wr
    unfold wrOk at this ⊢
    rw [hB, List.countP_append] at this
    have h0 : B.countP (fun e => isWri e.kind) = 0 := by
      rw [List.countP_eq_zero]
      intro e he hw
      have h1 := hp e he
      obtain ⟨h2, h3⟩ := isWri_cases hw
      unfold isPen at h1
      simp at h1
      omega
    rw [h0] at this
    exact this
  · have h2 := h.sz
    unfold Phi at h2 ⊢
    rw [hB, phiE_app] at h2
    show s.out.length + phiE (dropP s.els) + k ≤ _
    omega
  · have h2 := h.wf
    rw [hB, List.reverse_append] at h2
    exact h2.drop
theorem Ok.item {k : Nat} {s : St} (hI : Ok k s) (t : Tok) : Ok k (itemS s t) := by
  unfold itemS
  split
  · exact hI
  · split
    · exact hI.drop
    · exact hI
theorem Ok.mark {k : Nat} {s : St} (hI : Ok k s) (b : Bool) : Ok k (markS s b) := by
  unfold markS
  split
  · exact hI
  · exact hI.marked _ _
theorem Ok.comma {n : Nat} : ∀ {k : Nat} {s : St}, Ok k s → Ok k (commaS n s) := by
  induction n with
  | zero => intro k s hI; exact hI
  | succ n ih =>
    intro k s hI
    unfold commaS
    split
    · split
      · exact hI
      · split
        · cases hc : Go.Proofs.Ythblchafjmgmbaa.closeB s (isK 0) with
          | none => exact ih hI
          | some s' => exact ih (hI.closeB hc)
        · exact hI
    · exact hI
theorem Ok.bracket {k : Nat} {s s' : St} {t : Tok} {w : ByteArray} (hI : Ok (k + 1) s) (h : bracketS s t w = some s') : Ok k s' := by
  unfold bracketS at h
  have hI2 : Ok (k + 1) (if (t.op == 10) && tx t.text [61] then markS s true else s) := by
    split
    · exact hI.mark true
    · exact hI
  revert h hI2
  generalize (if (t.op == 10) && tx t.text [61] then markS s true else s) = z
  intro h hI2
  simp only at h
  split at h
  · split at h
    · injection h with h; rw [← h]; exact hI2.push1 (by decide)
    split at h
    · injection h with h; rw [← h]; exact hI2.push1 (by decide)
    split at h
    · injection h with h; rw [← h]; exact hI2.push1 (by simp)
    split at h
    · exact (hI2.closeB h).less (by omega)
    split at h
    · exact (hI2.closeB h).less (by omega)
    split at h
    · exact (hI2.closeB h).less (by omega)
    split at h
    · injection h with h; rw [← h]; exact hI2.comma.less (by omega)
    split at h
    · injection h with h; rw [← h]; exact (hI2.mark false).less (by omega)
    · injection h with h; rw [← h]; exact hI2.less (by omega)
  · injection h with h; rw [← h]; exact hI2.less (by omega)
theorem Ok.key {k : Nat} {s s' : St} {t : Tok} (hI : Ok (k + 1) s) (h : keyS s t = some s') : Ok k s' := by
  unfold keyS at h
  split at h
  · simp only at h
    have key : ∀ r : Option St, (∀ u, r = some u → Ok k u) → (r.map fun s => if opens t then { s with exp := true, word := t.text } else s) = some s' → Ok k s' := by
      intro r hr h
      cases r with
      | none => cases h
      | some u =>
        injection h with h
        rw [← h]
        split
        · exact (hr u rfl).flags _ _
        · exact hr u rfl
    refine key _ (fun u hu => ?_) h
    have cl : ∀ {p : El → Bool} {u : St}, ((Go.Proofs.Ythblchafjmgmbaa.closeTo s p).map (·.2)) = some u → Ok k u := by
      intro p u hu
      cases hc : Go.Proofs.Ythblchafjmgmbaa.closeTo s p with
      | none => rw [hc] at hu; cases hu
      | some r => rw [hc] at hu; injection hu with hu; rw [← hu]; exact (hI.closeTo hc).less (by omega)
    split at hu
    · injection hu with hu; rw [← hu]; exact hI.push1 (by decide)
    split at hu
    · injection hu with hu; rw [← hu]; exact hI.push1 (by decide)
    split at hu
    · exact cl hu
    split at hu
    · cases hc : Go.Proofs.Ythblchafjmgmbaa.closeTo s (isK 5) with
      | none => rw [hc] at hu; cases hu
      | some r => rw [hc] at hu; injection hu with hu; rw [← hu]; exact ((hI.closeTo hc).less (by omega)).push1 (by decide)
    split at hu
    · exact cl hu
    split at hu
    · exact cl hu
    · injection hu with hu; rw [← hu]; exact hI.less (by omega)
  · injection h with h; rw [← h]; exact hI.less (by omega)
theorem Ok.token {k : Nat} {s s' : St} {t : Tok} {f : Bool} (hI : Ok (k + 8) s) (h : tokenS s t f = some s') : Ok k s' := by
  unfold tokenS at h
  simp only at h
  have hB : Ok (k + 4) (if s.exp then beginS s t else (false, s)).2 := by
    split
    · exact Ok.begin (k := k + 4) hI t
    · exact hI.less (by omega)
  revert h hB
  generalize (if s.exp then beginS s t else (false, s)) = b
  intro h hB
  have h1 := hB.flags false ⟨#[]⟩
  split at h
  · cases h
  · rename_i s2 hs2
    have h2 : Ok (k + 3) s2 := by
      split at hs2
      · exact Ok.line (k := k + 3) h1 hs2
      · injection hs2 with hs2; rw [← hs2]; exact h1.less (by omega)
    split at h
    · cases h
    · rename_i s3 hs3
      have h3 := Ok.bracket (k := k + 2) (h2.item t) hs3
      cases hk : keyS s3 t with
      | none => rw [hk] at h; cases h
      | some s4 =>
        rw [hk] at h
        injection h with h
        have h4 := Ok.key (k := k + 1) h3 hk
        rw [← h]
        exact h4.tok
theorem ok0 (k : Nat) (hk : k ≤ 1000000000000) : Ok k ⟨[], 0, [], true, ⟨#[]⟩⟩ := ⟨fun i e h => by simp at h, rfl, by simpa [Phi, phiE] using hk, trivial⟩
theorem imp_pushP (s : St) (e : El) (he : (e.kind == 0) = false) : imp (pushE s e).els = imp s.els := by rw [push_imp, he]; rfl
theorem closed_imp (s : St) (w : ByteArray) : imp (closedS s w).els = imp s.els := by
  unfold closedS
  split
  · exact imp_pushP s _ (by decide)
  · rfl
theorem closeB_imp {s s' : St} (h : closeB s (isK 0) = some s') : imp s'.els < imp s.els := by
  unfold closeB at h
  cases hc : closeTo s (isK 0) with
  | none => rw [hc] at h; cases h
  | some r =>
    rw [hc] at h
    injection h with h
    obtain ⟨A, Q, h1, h2, h3, h4, -⟩ := closeTo_spec (e := r.1) (s' := r.2) hc
    rw [← h, closed_imp, h4, h1, imp_app]
    have h5 : imp (r.1 :: Q) = imp [r.1] + imp Q := imp_app [r.1] Q
    rw [h5, imp_one]
    unfold isK at h2
    rw [h2]
    simp only [if_true]
    omega
theorem ctx_nw {k : Int} (h : isCtx k = false) : isWri k = false := by unfold isWri; rw [h]; rfl
theorem comma_some {k : Nat} {s : St} {e : El} (h : Ok k s) (hi : implAt s.els (topC s.els) = some e) : ∃ s', closeB s (isK 0) = some s' := by
  rw [impl_get] at hi
  rcases getE_lix (p := fun e => isCtx e.kind) (l := s.els) with ⟨j1, _, _⟩ | ⟨A, u, Q, j1, j2, j3, j4, j5⟩
  · rw [topC_eq h.wf, j1] at hi; cases hi
  · rw [topC_eq h.wf, j5] at hi
    simp only [Option.bind_some] at hi
    split at hi
    · rename_i hk
      obtain ⟨w, hw⟩ := closeTo_of (p := isK 0) j1 hk (fun q hq => by
        have hc := j3 q hq
        refine ⟨?_, ctx_nw hc⟩
        unfold isK
        cases h0 : (q.kind == 0) with
        | false => rfl
        | true =>
          have h1 : q.kind = 0 := by simpa using h0
          rw [h1] at hc; cases hc)
      exact ⟨_, by unfold closeB; rw [hw]; rfl⟩
    · cases hi
theorem imp_le (l : List El) : imp l ≤ l.length := List.countP_le_length
end Go.Proofs.Ythblchafjmgmbaa
