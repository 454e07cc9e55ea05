/-
  PLAIN. Of the layout algorithm: its run over its own output: many closing braces; closing down to an element.
-/
import Derived.Test.YtkdogaomlocijaaIns4
namespace Go.Proofs.Ytkdogaomlocijaa
open Go.RowKit
theorem pens_no {l : List El} (h : Pens l) : NoI l := fun e he => by
  have h3 := h e he
  unfold isPen at h3
  have : 3 < e.kind := by simpa using h3
  omega
theorem pens_imp {l : List El} (h : Pens l) : imp l = 0 := NoI.imp (pens_no h)
theorem Pens.app {a b : List El} (h : Pens a) (h2 : Pens b) : Pens (a ++ b) := fun e he => (List.mem_append.1 he).elim (h e) (h2 e)
/-- The topmost implicit block. -/
theorem imp_split (n : Nat) : ∀ (Q : List El), (∀ q ∈ Q, isWri q.kind = false) → imp Q = n + 1 → ∃ A e B, Q = A ++ e :: B ∧ e.kind = 0 ∧ Pens B ∧ imp A = n := by
  intro Q
  have rv : ∀ (R : List El), (∀ q ∈ R, isWri q.kind = false) → imp R = n + 1 → ∃ A e B, R = A ++ e :: B ∧ e.kind = 0 ∧ Pens A ∧ imp B = n := by
    intro R
    induction R with
    | nil => intro _ h; cases h
    | cons a R ih =>
      intro hw h
      have hi : imp (a :: R) = imp [a] + imp R := imp_app [a] R
      rw [imp_one] at hi
      by_cases hk : a.kind = 0
      · refine ⟨[], a, R, rfl, hk, fun e he => absurd he List.not_mem_nil, ?_⟩
        rw [if_pos (by simpa using hk)] at hi
        omega
      · rw [if_neg (by simpa using hk)] at hi
        obtain ⟨A, e, B, h1, h2, h3, h4⟩ := ih (fun q hq => hw q (List.mem_cons_of_mem _ hq)) (by omega)
        refine ⟨a :: A, e, B, by rw [h1]; rfl, h2, fun u hu => ?_, h4⟩
        rcases List.mem_cons.1 hu with rfl | hu
        · have := hw u (List.mem_cons_self ..)
          unfold isWri isCtx at this
          unfold isPen
          rcases Bool.and_eq_false_iff.1 this with h5 | h5
          · have : ¬ u.kind ≤ 3 := by simpa using h5
            simp; omega
          · exact absurd (by simpa using h5) hk
        · exact h3 u hu
  intro hw h
  obtain ⟨A, e, B, h1, h2, h3, h4⟩ := rv Q.reverse (fun q hq => hw q (List.mem_reverse.1 hq)) (by unfold imp at h ⊢; rw [List.countP_reverse]; exact h)
  refine ⟨B.reverse, e, A.reverse, ?_, h2, fun u hu => h3 u (List.mem_reverse.1 hu), by unfold imp at h4 ⊢; rw [List.countP_reverse]; exact h4⟩
  have := congrArg List.reverse h1
  rw [List.reverse_reverse] at this
  rw [this]; simp
theorem key_split {Q Q2 A B : List El} {e : El} (h : Q.map key = Q2.map key) (hq : Q = A ++ e :: B) :
    ∃ A2 e2 B2, Q2 = A2 ++ e2 :: B2 ∧ A.map key = A2.map key ∧ key e = key e2 ∧ B.map key = B2.map key := by
  rw [hq, List.map_append, List.map_cons] at h
  obtain ⟨A2, R, h1, h2, h3⟩ := List.map_eq_append_iff.1 h.symm
  obtain ⟨e2, B2, h4, h5, h6⟩ := List.map_eq_cons_iff.1 h3
  exact ⟨A2, e2, B2, by rw [h1, h4], h2.symm, h5.symm, h6.symm⟩
theorem key_app {Q Q2 A B : List El} (h : Q.map key = Q2.map key) (hq : Q = A ++ B) :
    ∃ A2 B2, Q2 = A2 ++ B2 ∧ A.map key = A2.map key ∧ B.map key = B2.map key := by
  rw [hq, List.map_append] at h
  obtain ⟨A2, R, h1, h2, h3⟩ := List.map_eq_append_iff.1 h.symm
  exact ⟨A2, R, h1, h2.symm, h3.symm⟩
theorem key_kind {e e2 : El} (h : key e = key e2) (h2 : 0 < e2.kind) : e2.kind = (if e.kind = 0 then 1 else e.kind) ∧ e2.word = e.word := by
  unfold key at h
  rw [if_neg (show ¬ e2.kind = 0 by omega), Prod.mk.injEq] at h
  exact ⟨h.1.symm, h.2.symm⟩
theorem key_mem {A A2 : List El} (h : A.map key = A2.map key) {u : El} (hu : u ∈ A2) : ∃ v ∈ A, key v = key u := by
  have : key u ∈ A.map key := by rw [h]; exact List.mem_map_of_mem hu
  obtain ⟨v, h1, h2⟩ := List.mem_map.1 this
  exact ⟨v, h1, h2⟩
theorem key_pens {A A2 : List El} (h : A.map key = A2.map key) (hn : NoI A2) (hp : Pens A) : Pens A2 := by
  intro u hu
  obtain ⟨v, hv, hk⟩ := key_mem h hu
  have := (key_kind hk (hn u hu)).1
  have hvp := hp v hv
  rw [if_neg (pen_kind hvp).2.1] at this
  rw [this]; exact hvp
/-- What lies above after the braces: what lay there, or a pending let where a block of let was. -/
def Over (Q Q2 P : List El) : Prop := ∀ u ∈ P, (u ∈ Q2 ∧ isPen u.kind = true) ∨ (u.kind = 7 ∧ u.word = ⟨#[]⟩ ∧ ∃ q ∈ Q, q.kind = 0 ∧ tx q.word bLet = true)
theorem Over.pens {Q Q2 P : List El} (h : Over Q Q2 P) : Pens P := by
  intro u hu
  rcases h u hu with h | h
  · exact h.2
  · rw [h.1]; decide
/-- Many closing braces; D: pendings that may lie on top. -/
theorem multi (n : Nat) : ∀ (s : St) (A2 Q Q2 D : List El), NoI s.els → Calm s → s.els = A2 ++ (Q2 ++ D) → Q.map key = Q2.map key → (∀ q ∈ Q, isWri q.kind = false) → Pens D → imp Q = n →
    ∃ s' P, Runs s (List.replicate n (exT 125)) s' ∧ s'.els = A2 ++ P ∧ NoI s'.els ∧ Calm s' ∧ s'.out = s.out ++ List.replicate n (exT 125) ∧ Pens P ∧ (n ≠ 0 → Over Q Q2 P) ∧ (n = 0 → s' = s) := by
  induction n with
  | zero =>
    intro s A2 Q Q2 D hn hc hs hk hw hD hi
    have hp : Pens Q := by
      intro u hu
      unfold imp at hi
      rw [List.countP_eq_zero] at hi
      have h0 := hi u hu
      have := hw u hu
      unfold isWri isCtx at this
      unfold isPen
      rcases Bool.and_eq_false_iff.1 this with h5 | h5
      · have : ¬ u.kind ≤ 3 := by simpa using h5
        simp; omega
      · exact absurd (by simpa using h5) (by simpa using h0)
    have hp2 : Pens Q2 := key_pens hk ((hs ▸ hn : NoI (A2 ++ (Q2 ++ D))).right.left) hp
    exact ⟨s, Q2 ++ D, .nil _, hs, hn, hc, (List.append_nil _).symm, hp2.app hD, fun h => absurd rfl h, fun _ => rfl⟩
  | succ n ih =>
    intro s A2 Q Q2 D hn hc hs hk hw hD hi
    obtain ⟨A, e, B, h1, h2, h3, h4⟩ := imp_split n Q hw hi
    obtain ⟨C2, e2, B2, g1, g2, g3, g4⟩ := key_split hk h1
    have hn2 := (hs ▸ hn : NoI (A2 ++ (Q2 ++ D))).right.left
    rw [g1] at hn2
    have he2 := key_kind g3 (hn2 e2 (by simp))
    rw [h2] at he2
    have hB2 : Pens B2 := key_pens g4 (fun u hu => hn2 u (by simp [hu])) h3
    have hs2 : s.els = (A2 ++ C2) ++ e2 :: (B2 ++ D) := by rw [hs, g1]; simp
    obtain ⟨s1, x, k1, k2, k3, k4, k5, k6, k7⟩ := step_close hn hc hs2 he2.1 (hB2.app hD)
    let X : List El := if tx e2.word bLet then [x] else []
    have hX : Pens X := by
      intro u hu
      by_cases hl : tx e2.word bLet = true
      · have : X = [x] := if_pos hl
        rw [this, List.mem_singleton] at hu
        subst hu; rw [k3]; decide
      · have : X = [] := if_neg hl
        rw [this] at hu; exact absurd hu List.not_mem_nil
    have k2' : s1.els = A2 ++ ((C2 ++ X) ++ []) := by rw [k2, List.append_nil, List.append_assoc]
    have hAw : ∀ q ∈ A, isWri q.kind = false := fun q hq => hw q (by rw [h1]; simp [hq])
    obtain ⟨s2, P, j1, j2, j3, j4, j5, j6, j7, j8⟩ := ih s1 A2 (A ++ X) (C2 ++ X) [] k5 k6 k2' (by rw [List.map_append, List.map_append, g2]) (fun q hq => by
      rcases List.mem_append.1 hq with hq | hq
      · exact hAw q hq
      · exact (pen_kind (hX q hq)).1) (fun u hu => absurd hu List.not_mem_nil) (by rw [imp_app, pens_imp hX]; omega)
    refine ⟨s2, P, ?_, j2, j3, j4, ?_, j6, fun _ => ?_, fun h => absurd h (by omega)⟩
    · rw [List.replicate_succ]; exact .cons k1 j1
    · rw [j5, k7, List.replicate_succ]; simp
    · have hx : ∀ u ∈ X, u.kind = 7 ∧ u.word = ⟨#[]⟩ ∧ ∃ q ∈ Q, q.kind = 0 ∧ tx q.word bLet = true := by
        intro u hu
        by_cases hl : tx e2.word bLet = true
        · have : X = [x] := if_pos hl
          rw [this, List.mem_singleton] at hu
          subst hu
          exact ⟨k3, k4, e, by rw [h1]; simp, h2, by rw [← he2.2]; exact hl⟩
        · have : X = [] := if_neg hl
          rw [this] at hu; exact absurd hu List.not_mem_nil
      by_cases hn0 : n = 0
      · have : s2 = s1 := j8 hn0
        rw [this, k2', List.append_nil] at j2
        have hP : P = C2 ++ X := (List.append_cancel_left j2).symm
        intro u hu
        have hup := j6 u hu
        rw [hP] at hu
        rcases List.mem_append.1 hu with hu | hu
        · exact .inl ⟨by rw [g1]; simp [hu], hup⟩
        · exact .inr (hx u hu)
      · intro u hu
        rcases j7 hn0 u hu with ⟨h5, h6⟩ | ⟨h5, h6, q, h7, h8, h9⟩
        · rcases List.mem_append.1 h5 with h5 | h5
          · exact .inl ⟨by rw [g1]; simp [h5], h6⟩
          · exact .inr (hx u h5)
        · rcases List.mem_append.1 h7 with h7 | h7
          · exact .inr ⟨h5, h6, q, by rw [h1]; simp [h7], h8, h9⟩
          · exact absurd h8 (pen_kind (hX q h7)).2.1
end Go.Proofs.Ytkdogaomlocijaa
