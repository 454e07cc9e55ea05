/-
  PLAIN. The program's layout and the reference's side by side: closing.
-/
import Derived.Test.YthblchafjmgmbaaLir2
namespace Go.Proofs.Ythblchafjmgmbaa
open Go.RowKit
theorem find_lix (p : El → Bool) (L : List El) : findR p L = if lix p L < 0 ∨ lix p L < lix (fun e => isWri e.kind) L then none else some (lix p L).toNat := by
  induction L with
  | nil => rfl
  | cons e r ih =>
    have e1 : lix p (e :: r) = if p e then (r.length : Int) else lix p r := rfl
    have e2 : lix (fun e => isWri e.kind) (e :: r) = if isWri e.kind then (r.length : Int) else lix (fun e => isWri e.kind) r := rfl
    have l1 := lix_lt p r
    have l2 := lix_lt (fun e : El => isWri e.kind) r
    unfold findR
    rw [e1, e2]
    by_cases hp : p e = true
    · rw [if_pos hp, if_pos hp, if_neg (by split <;> omega)]
      simp
    · rw [if_neg hp, if_neg hp]
      by_cases hw : isWri e.kind = true
      · rw [if_pos hw, if_pos hw, if_pos (by omega)]
      · rw [if_neg hw, if_neg hw, ih]
def wrOk (s : St) : Prop := s.written = (s.els.countP (fun e => isWri e.kind) : Nat)
theorem pop_wr {s : St} {e : El} (h : wrOk s) (hl : s.els.getLast? = some e) : wrOk (popS s e) := by
  unfold wrOk at h ⊢
  obtain ⟨ys, hys⟩ := List.getLast?_eq_some_iff.1 hl
  show (if isWri e.kind = true then s.written - 1 else s.written) = (s.els.dropLast.countP _ : Nat)
  rw [hys, List.dropLast_concat]
  rw [hys, List.countP_append, List.countP_singleton] at h
  rw [h]
  split <;> simp_all
theorem closeN_wr (n : Nat) : ∀ {s s' : St} {e : El}, wrOk s → closeN n s = some (e, s') → wrOk s' := by
  induction n with
  | zero => intro s s' e _ h; cases h
  | succ n ih =>
    intro s s' e hw h
    unfold closeN at h
    cases hl : s.els.getLast? with
    | none => rw [hl] at h; cases h
    | some u =>
      rw [hl] at h
      simp only at h
      have h2 : wrOk (if u.kind == 0 then insS (popS s u) 125 else popS s u) := by
        have := pop_wr hw hl
        split
        · exact this
        · exact this
      split at h
      · injection h with h
        rw [Prod.mk.injEq] at h
        rw [← h.2]; exact h2
      · exact ih h2 h
theorem closeTo_wr {s s' : St} {e : El} {p : El → Bool} (hw : wrOk s) (h : closeTo s p = some (e, s')) : wrOk s' := by
  unfold closeTo at h
  split at h
  · cases h
  · exact closeN_wr _ hw h
/-- The stack without what lies above. -/
theorem Rl.cut {s s' : St} {m : RM} {A B : List El} (h : Rl s m) (hs : s.els = A ++ B) (h1 : s'.els = A) (h2 : s'.out = s.out ++ rep (imp B)) (hw : wrOk s') (h5 : s'.exp = s.exp) (h6 : s'.word = s.word) :
    Rl s' { m with stack := m.stack.take A.length, out := m.out ++ rep (imp B) } := by
  have hwf := h.wf
  have hkd := h.kd
  rw [hs, List.reverse_append] at hwf
  rw [hs] at hkd
  refine ⟨?_, ?_, by rw [h1]; exact hwf.drop, by rw [h1]; exact fun u hu => hkd u (List.mem_append_left _ hu), hw, by rw [h1]; exact fun u hu => h.wd u (by rw [hs]; exact List.mem_append_left _ hu), by rw [h5, h6]; exact h.ex⟩
  · show m.stack.take A.length = _
    rw [h.stack, hs, h1, List.map_append]
    rw [← List.length_map (f := toR), List.take_left]
  · show m.out ++ _ = _
    rw [h.out, h2]
theorem cnt_imp {l : List El} (h : Kd l) : (l.map toR).countP (fun e => e.form == 1) = imp l := by
  unfold imp
  rw [List.countP_map]
  refine List.countP_congr (fun e he => ?_)
  show (formR e.kind == 1) = true ↔ _
  rw [form_imp (h e he)]
theorem cut_eq {m : RM} {A B : List El} (hm : m.stack = (A ++ B).map toR) (hk : Kd (A ++ B)) {i : Int} (hi : i + 1 = A.length) :
    rCut m i = { m with stack := m.stack.take A.length, out := m.out ++ rep (imp B) } := by
  unfold rCut
  have : (i + 1).toNat = A.length := by omega
  rw [this]
  congr 3
  rw [hm, List.map_append, ← List.length_map (f := toR), List.drop_left]
  exact cnt_imp (fun u hu => hk u (List.mem_append_right _ hu))
/-- Two answers: both faults, or both states. -/
def Two (a : Option St) (b : Option RM) : Prop := (a = none ∧ b = none) ∨ ∃ s m, a = some s ∧ b = some m ∧ Rl s m
theorem isWri_cases {k : Int} (h : isWri k = true) : k ≠ 0 ∧ k ≤ 3 := by
  unfold isWri isCtx at h
  have := Bool.and_eq_true_iff.1 h
  exact ⟨by simpa using this.2, by simpa using this.1⟩
/-- A closing bracket. -/
theorem closes_rel {s : St} {m : RM} (h : Rl s m) {k : Int} (hk : k = 1 ∨ k = 2 ∨ k = 3) : Two (closeB s (isK k)) (rCloses m (k + 1)) := by
  have hkd := h.kd
  have hp : ∀ e ∈ s.els, isWri e.kind = false → isK k e = false := by
    intro e he hw
    unfold isK
    cases hx : (e.kind == k) with
    | false => rfl
    | true =>
      have hx' : e.kind = k := by simpa using hx
      rw [hx'] at hw
      rcases hk with rfl | rfl | rfl <;> cases hw
  unfold rCloses
  rw [h.stack, rWri_map hkd, getR_map]
  rcases getE_lix (p := fun e => isWri e.kind) (l := s.els) with ⟨g1, g2, g3⟩ | ⟨A, e, Q, g1, g2, g3, g4, g5⟩
  · refine .inl ⟨?_, by rw [g1]; rfl⟩
    unfold closeB closeTo
    have : lix (isK k) s.els.reverse = -1 := by
      rcases lix_spec (isK k) s.els.reverse with ⟨h1, _⟩ | ⟨U, e, D, h1, h2, _, _⟩
      · exact h1
      · have hm : e ∈ s.els := List.mem_reverse.1 (by rw [h1]; simp)
        rw [hp e hm (g3 e hm)] at h2; cases h2
    rw [find_lix, this, if_pos (.inl (by decide))]
    rfl
  · rw [g5, Option.map_some]
    simp only
    have he := hkd e (by rw [g1]; simp)
    have hke := isWri_cases g2
    by_cases hf : e.kind = k
    · have hform : (toR e).form = k + 1 := by
        show formR e.kind = _
        rw [hf]
        rcases hk with rfl | rfl | rfl <;> rfl
      rw [if_pos (by rw [hform]; simp)]
      obtain ⟨w, hcl⟩ := closeTo_of (p := isK k) g1 (by unfold isK; rw [hf]; simp) (fun q hq => ⟨hp q (by rw [g1]; simp [hq]) (g3 q hq), g3 q hq⟩)
      have hwr : wrOk _ := closeTo_wr h.wr hcl
      have hR := h.cut (B := e :: Q) g1 rfl rfl hwr rfl rfl
      have hR2 := hR.closed e.word
      refine .inr ⟨_, _, by unfold closeB; rw [hcl]; rfl, rfl, ?_⟩
      have hi : imp (e :: Q) = imp Q := by
        have : imp (e :: Q) = imp [e] + imp Q := imp_app [e] Q
        rw [this, imp_one, if_neg (by simpa using hke.1)]; omega
      rw [g4]
      have hc := cut_eq (m := m) (A := A ++ [e]) (B := Q) (by rw [h.stack, g1]; simp) (by have := hkd; rw [g1] at this; simpa using this) (i := A.length) (by simp)
      rw [hc]
      have hw : (if (k + 1 == 2) = true then (toR e).word else ⟨#[]⟩) = e.word := by
        rcases hk with rfl | rfl | rfl
        · show wordR e = _
          unfold wordR
          rw [hf]; rfl
        · exact (h.wd e (by rw [g1]; simp) (.inl hf)).symm
        · exact (h.wd e (by rw [g1]; simp) (.inr hf)).symm
      rw [hw]
      have hm : ({ ({ m with stack := m.stack.take (A ++ [e]).length, out := m.out ++ rep (imp Q) } : RM) with stack := (m.stack.take (A ++ [e]).length).take (A.length : Int).toNat } : RM) = { m with stack := m.stack.take A.length, out := m.out ++ rep (imp (e :: Q)) } := by
        rw [hi, List.take_take]
        congr 2
        simp
      show Rl _ (rWait { ({ m with stack := m.stack.take (A ++ [e]).length, out := m.out ++ rep (imp Q) } : RM) with stack := (m.stack.take (A ++ [e]).length).take (A.length : Int).toNat } e.word)
      rw [hm]
      exact hR2
    · have hform : ¬ (formR e.kind = k + 1) := by
        have h3 : e.kind = 1 ∨ e.kind = 2 ∨ e.kind = 3 := by omega
        unfold formR
        rcases h3 with h3 | h3 | h3 <;> rcases hk with rfl | rfl | rfl <;> rw [h3] <;> first | decide | exact absurd h3 hf
      refine .inl ⟨?_, ?_⟩
      · unfold closeB closeTo
        have hl : lix (isK k) s.els.reverse < (A.length : Int) := by
          have hrev : s.els.reverse = Q.reverse ++ e :: A.reverse := by rw [g1]; simp
          rw [hrev]
          rcases lix_app (isK k) Q.reverse (e :: A.reverse) with ⟨_, h2⟩ | ⟨⟨u, h1, h2⟩, _⟩
          · rw [h2]
            have e1 : lix (isK k) (e :: A.reverse) = if isK k e then (A.reverse.length : Int) else lix (isK k) A.reverse := rfl
            have hn : isK k e = false := by unfold isK; simpa using hf
            rw [e1, hn, if_neg Bool.false_ne_true]
            have := lix_lt (isK k) A.reverse
            rw [List.length_reverse] at this
            exact this.1
          · have hu := List.mem_reverse.1 h1
            have hm : u ∈ s.els := by rw [g1]; simp [hu]
            rw [hp u hm (g3 u hu)] at h2; cases h2
        rw [find_lix, if_pos (.inr (by rw [g4]; exact hl))]
        rfl
      · exact if_neg (by show ¬ ((formR e.kind == k + 1) = true); simpa using hform)
end Go.Proofs.Ythblchafjmgmbaa
