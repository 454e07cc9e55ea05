/-
  PLAIN. The program's layout state and the reference's side by side: what they look for.
-/
import Derived.Test.YthblchafjmgmbaaLir
namespace Go.Proofs.Ythblchafjmgmbaa
open Go.RowKit
theorem lix_lt {α : Type} (p : α → Bool) (r : List α) : lix p r < r.length ∧ -1 ≤ lix p r := by
  rcases lix_spec p r with ⟨h, _⟩ | ⟨U, e, D, h1, _, _, h4⟩
  · rw [h]; exact ⟨by omega, by decide⟩
  · rw [h4, h1]; simp; omega
theorem lix_app {α : Type} (p : α → Bool) (U R : List α) : ((∀ u ∈ U, p u = false) ∧ lix p (U ++ R) = lix p R) ∨ ((∃ u ∈ U, p u = true) ∧ (R.length : Int) ≤ lix p (U ++ R)) := by
  induction U with
  | nil => exact .inl ⟨fun u hu => absurd hu List.not_mem_nil, rfl⟩
  | cons e U ih =>
    rw [List.cons_append]
    have hx : lix p (e :: (U ++ R)) = if p e then ((U ++ R).length : Int) else lix p (U ++ R) := rfl
    rw [hx]
    by_cases h : p e = true
    · rw [if_pos h]
      exact .inr ⟨⟨e, List.mem_cons_self .., h⟩, by simp; omega⟩
    · rw [if_neg h]
      rcases ih with ⟨h1, h2⟩ | ⟨⟨u, h1, h2⟩, h3⟩
      · refine .inl ⟨fun u hu => ?_, h2⟩
        rcases List.mem_cons.1 hu with rfl | hu
        · simpa using h
        · exact h1 u hu
      · exact .inr ⟨⟨u, List.mem_cons_of_mem _ h1, h2⟩, h3⟩
/-- The positions that the elements keep are right; the top first. -/
def WfR : List El → Prop
  | [] => True
  | e :: r => e.blk = lix (fun e => isBlk e.kind) (e :: r) ∧ e.ctx = lix (fun e => isCtx e.kind) (e :: r) ∧ WfR r
def g3 (e : El) : Int × Int × Int := (e.kind, e.blk, e.ctx)
theorem lix_g (p : Int → Bool) (r : List El) : ∀ r2 : List El, r.map g3 = r2.map g3 → lix (fun e => p e.kind) r = lix (fun e => p e.kind) r2 := by
  intro r2 h
  have h2 : r.map (·.kind) = r2.map (·.kind) := by
    have := congrArg (List.map (fun x : Int × Int × Int => x.1)) h
    rw [List.map_map, List.map_map] at this
    exact this
  have e1 := lix_map (p := p) (f := fun e : El => e.kind) r
  have e2 := lix_map (p := p) (f := fun e : El => e.kind) r2
  rw [← e1, ← e2, h2]
theorem WfR.same (r : List El) : ∀ {r2 : List El}, WfR r → r.map g3 = r2.map g3 → WfR r2 := by
  induction r with
  | nil => intro r2 _ h; cases r2 with
    | nil => trivial
    | cons _ _ => cases h
  | cons e r ih =>
    intro r2 hw h
    cases r2 with
    | nil => cases h
    | cons e2 r2 =>
      have hb := lix_g isBlk (e :: r) (e2 :: r2) h
      have hc := lix_g isCtx (e :: r) (e2 :: r2) h
      rw [List.map_cons, List.map_cons, List.cons.injEq] at h
      obtain ⟨h1, h2, h3⟩ := hw
      have hg := h.1
      unfold g3 at hg
      rw [Prod.mk.injEq, Prod.mk.injEq] at hg
      exact ⟨by rw [← hb, ← h1, hg.2.1], by rw [← hc, ← h2, hg.2.2], ih h3 h.2⟩
theorem topB_eq {l : List El} (h : WfR l.reverse) : topB l = lix (fun e => isBlk e.kind) l.reverse := by
  rcases List.eq_nil_or_concat l with rfl | ⟨l', e, rfl⟩
  · rfl
  · rw [List.concat_eq_append] at h ⊢
    unfold topB
    rw [List.getLast?_concat]
    rw [List.reverse_append] at h ⊢
    exact h.1
theorem topC_eq {l : List El} (h : WfR l.reverse) : topC l = lix (fun e => isCtx e.kind) l.reverse := by
  rcases List.eq_nil_or_concat l with rfl | ⟨l', e, rfl⟩
  · rfl
  · rw [List.concat_eq_append] at h ⊢
    unfold topC
    rw [List.getLast?_concat]
    rw [List.reverse_append] at h ⊢
    exact h.2.1
theorem WfR.drop {A B : List El} (h : WfR (A ++ B)) : WfR B := by
  induction A with
  | nil => exact h
  | cons e A ih => exact ih h.2.2
/-- The two states. -/
structure Rl (s : St) (m : RM) : Prop where
  stack : m.stack = s.els.map toR
  out : m.out = s.out
  wf : WfR s.els.reverse
  kd : Kd s.els
  wr : s.written = (s.els.countP (fun e => isWri e.kind) : Nat)
  wd : ∀ e ∈ s.els, e.kind = 2 ∨ e.kind = 3 → e.word = ⟨#[]⟩
  ex : m.expects = s.exp ∧ (s.exp = false → s.word = ⟨#[]⟩) ∧ (s.exp = true → m.word = s.word)
theorem Rl.push {s : St} {m : RM} (h : Rl s m) {e : El} {r : REl} (hk : 0 ≤ e.kind ∧ e.kind ≤ 7) (hr : toR e = r) (hw : e.kind = 2 ∨ e.kind = 3 → e.word = ⟨#[]⟩) : Rl (pushE s e) (rPush m r) := by
  refine ⟨?_, h.out, ?_, ?_, ?_, fun u hu => by
    rcases List.mem_append.1 hu with hu | hu
    · exact h.wd u hu
    · rw [List.mem_singleton] at hu; subst hu; exact hw, h.ex⟩
  · show m.stack ++ [r] = (s.els ++ [_]).map toR
    rw [List.map_append, h.stack, ← hr]; rfl
  · show WfR (s.els ++ [_]).reverse
    rw [List.reverse_append]
    refine ⟨?_, ?_, h.wf⟩
    · show (if isBlk e.kind = true then (s.els.length : Int) else topB s.els) = if isBlk e.kind = true then (s.els.reverse.length : Int) else lix _ s.els.reverse
      rw [topB_eq h.wf, List.length_reverse]
    · show (if isCtx e.kind = true then (s.els.length : Int) else topC s.els) = if isCtx e.kind = true then (s.els.reverse.length : Int) else lix _ s.els.reverse
      rw [topC_eq h.wf, List.length_reverse]
  · intro u hu
    rcases List.mem_append.1 hu with hu | hu
    · exact h.kd u hu
    · rw [List.mem_singleton] at hu; subst hu; exact hk
  · show (if isWri e.kind = true then s.written + 1 else s.written) = ((s.els ++ [_]).countP _ : Nat)
    rw [List.countP_append, List.countP_singleton]
    show _ = ((s.els.countP (fun e => isWri e.kind) + (if isWri e.kind = true then 1 else 0) : Nat) : Int)
    rw [h.wr]
    split <;> omega
theorem Rl.ins {s : St} {m : RM} (h : Rl s m) (b : UInt8) : Rl (insS s b) (rIns m b) := ⟨h.stack, by show m.out ++ _ = s.out ++ _; rw [h.out], h.wf, h.kd, h.wr, h.wd, h.ex⟩
theorem Rl.closed {s : St} {m : RM} (h : Rl s m) (w : ByteArray) : Rl (closedS s w) (rWait m w) := by
  unfold closedS rWait
  split
  · exact h.push (by decide) rfl (fun _ => rfl)
  · exact h
theorem eq_map (l : List El) (b : Bool) : ∀ i : Nat, (l.map toR).modify i (fun e => { e with eq := b }) = (l.modify i (fun e => { e with marked := b })).map toR := by
  induction l with
  | nil => intro i; simp
  | cons e l ih =>
    intro i
    cases i with
    | zero => rfl
    | succ i => rw [List.map_cons, List.modify_succ_cons, List.modify_succ_cons, List.map_cons, ih]
theorem mark_g (l : List El) (b : Bool) : ∀ i : Nat, (l.modify i (fun e => { e with marked := b })).map g3 = l.map g3 := by
  induction l with
  | nil => intro i; simp
  | cons e l ih =>
    intro i
    cases i with
    | zero => rfl
    | succ i => rw [List.modify_succ_cons, List.map_cons, List.map_cons, ih]
theorem mark_w (l : List El) (b : Bool) : ∀ i : Nat, (l.modify i (fun e => { e with marked := b })).map (fun e => (e.kind, e.word)) = l.map (fun e => (e.kind, e.word)) := by
  induction l with
  | nil => intro i; simp
  | cons e l ih =>
    intro i
    cases i with
    | zero => rfl
    | succ i => rw [List.modify_succ_cons, List.map_cons, List.map_cons, ih]
theorem Rl.eq {s : St} {m : RM} (h : Rl s m) (i : Int) (b : Bool) : Rl { s with els := markAt s.els i b } { m with stack := rEq m.stack i b } := by
  have hg : (markAt s.els i b).map g3 = s.els.map g3 := mark_g _ _ _
  have hk : (markAt s.els i b).map (·.kind) = s.els.map (·.kind) := by
    have := congrArg (List.map (fun x : Int × Int × Int => x.1)) hg
    rw [List.map_map, List.map_map] at this
    exact this
  refine ⟨?_, h.out, WfR.same _ h.wf (by rw [List.map_reverse, List.map_reverse, hg]), ?_, ?_, fun u hu => by
    have hw : (markAt s.els i b).map (fun e => (e.kind, e.word)) = s.els.map (fun e => (e.kind, e.word)) := mark_w _ _ _
    have : (u.kind, u.word) ∈ (markAt s.els i b).map (fun e => (e.kind, e.word)) := List.mem_map_of_mem (f := fun e : El => (e.kind, e.word)) hu
    rw [hw] at this
    obtain ⟨v, h1, h2⟩ := List.mem_map.1 this
    rw [Prod.mk.injEq] at h2
    intro hx
    rw [← h2.2]
    exact h.wd v h1 (by rw [h2.1]; exact hx), h.ex⟩
  · show rEq m.stack i b = _
    unfold rEq
    rw [h.stack, eq_map]; rfl
  · intro u hu
    have : u.kind ∈ (markAt s.els i b).map (·.kind) := List.mem_map_of_mem hu
    rw [hk] at this
    obtain ⟨v, h1, h2⟩ := List.mem_map.1 this
    rw [← h2]; exact h.kd v h1
  · show s.written = _
    rw [h.wr]
    have e1 : s.els.countP (fun e => isWri e.kind) = (s.els.map (·.kind)).countP isWri := by rw [List.countP_map]; rfl
    have e2 : (markAt s.els i b).countP (fun e => isWri e.kind) = ((markAt s.els i b).map (·.kind)).countP isWri := by rw [List.countP_map]; rfl
    rw [e1, e2, hk]
/-- The element at a position. -/
def getE (l : List El) (i : Int) : Option El := if i < 0 then none else l[i.toNat]?
theorem getR_map (l : List El) (i : Int) : getR (l.map toR) i = (getE l i).map toR := by
  unfold getR getE
  split
  · rfl
  · rw [List.getElem?_map]
theorem impl_get (l : List El) (i : Int) : implAt l i = (getE l i).bind fun e => if e.kind == 0 then some e else none := by
  unfold implAt getE
  split
  · rfl
  · cases l[i.toNat]? with
    | none => rfl
    | some e => rfl
theorem getE_lix {p : El → Bool} {l : List El} : (getE l (lix p l.reverse) = none ∧ lix p l.reverse = -1 ∧ ∀ e ∈ l, p e = false) ∨
    ∃ A e Q, l = A ++ e :: Q ∧ p e = true ∧ (∀ q ∈ Q, p q = false) ∧ lix p l.reverse = A.length ∧ getE l (lix p l.reverse) = some e := by
  rcases lix_spec p l.reverse with ⟨h1, h2⟩ | ⟨U, e, D, h1, h2, h3, h4⟩
  · exact .inl ⟨by rw [h1]; rfl, h1, fun e he => h2 e (List.mem_reverse.2 he)⟩
  · have hl : l = D.reverse ++ e :: U.reverse := by
      have := congrArg List.reverse h1
      rw [List.reverse_reverse] at this
      rw [this]; simp
    refine .inr ⟨D.reverse, e, U.reverse, hl, h2, fun q hq => h3 q (List.mem_reverse.1 hq), by rw [h4, List.length_reverse], ?_⟩
    rw [h4]
    unfold getE
    rw [if_neg (by omega), hl]
    have : (D.length : Int).toNat = D.reverse.length := by rw [List.length_reverse]; omega
    rw [this, List.getElem?_append_right (Nat.le_refl _)]
    simp
end Go.Proofs.Ythblchafjmgmbaa
