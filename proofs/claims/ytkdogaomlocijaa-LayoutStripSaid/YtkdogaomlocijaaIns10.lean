/-
  PLAIN. Of the layout algorithm: Insert of what Explicit makes of its result gives the same tokens.
-/
import Derived.Test.YtkdogaomlocijaaIns9
namespace Go.Proofs.Ytkdogaomlocijaa
open Go.RowKit
theorem core_w {s : St} {t : Tok} (h : spT t [123] = false) (w w' : ByteArray) : core s t w = core s t w' := by
  by_cases h8 : t.op = 8
  · have h9 : t.op ≠ 9 := by rw [h8]; decide
    have hx : tx t.text [123] = false := by unfold spT at h; rw [h8] at h; simpa using h
    rw [core_not h9, core_not h9, brk8 h8, brk8 h8, hx]
    rfl
  · unfold core bracketS
    have h2 : (t.op == 8) = false := by simpa using h8
    rw [h2]
    rfl
def rst (s : St) : St := { s with exp := false, word := ⟨#[]⟩ }
theorem rst_calm (s : St) : Calm (rst s) := ⟨rfl, rfl⟩
theorem Sim.rst {s s2 : St} (h : Sim s s2) : Sim (rst s) (rst s2) := ⟨h.els, h.no, h.out, rfl, rfl⟩
theorem tok_eq (s : St) (t : Tok) (f : Bool) : tokenS s t f =
    match (if f && !(if s.exp then beginS s t else (false, s)).1 then lineS ((rst (if s.exp then beginS s t else (false, s)).2).els.length + 1) (rst (if s.exp then beginS s t else (false, s)).2) t.col else some (rst (if s.exp then beginS s t else (false, s)).2)) with
    | none => none
    | some s2 => core s2 t s.word := rfl
theorem tok_end {s1 s2 s0 s' : St} {t : Tok} {w : ByteArray} {X0 : List Tok} {o : List Tok} (h : Sim s1 s2) (hc : Calm s1) (hY : Runs s0 (explL X0) s2) (ht : t.auto = false) (hx : spT t [123] = false ∨ w = ⟨#[]⟩) (ho : s1.out = o ++ X0) (hr : core s1 t w = some s') :
    ∃ X s2', Runs s0 (explL X) s2' ∧ Sim s' s2' ∧ Good s' ∧ s'.out = o ++ X := by
  obtain ⟨X, s2', s3, h1, h2, h3, h4, h5, h6, h7⟩ := side h hc ht hr
  have h4' : core s2' t ⟨#[]⟩ = some s3 := by
    rcases hx with hx | hx
    · rw [← h4]; exact core_w hx _ _
    · rw [← hx]; exact h4
  have he : explL [t] = [t] := by
    cases t
    simp only at ht
    subst ht; rfl
  refine ⟨X0 ++ (X ++ [t]), s3, ?_, h5, h7, by rw [h6, ho]; simp⟩
  rw [expl_app, expl_app, he]
  exact hY.app (h1.app (.one (fun f => by rw [token_calm h2 h3]; exact h4')))
theorem tok_line {s1 s2 s0 s' : St} {t : Tok} {w : ByteArray} {f : Bool} {X0 o : List Tok} (h : Sim s1 s2) (hc : Calm s1) (hY : Runs s0 (explL X0) s2) (ht : t.auto = false) (hx : spT t [123] = false ∨ w = ⟨#[]⟩) (ho : s1.out = o ++ X0)
    (hr : (match (if f then lineS (s1.els.length + 1) s1 t.col else some s1) with | none => none | some s2 => core s2 t w) = some s') :
    ∃ X s2', Runs s0 (explL X) s2' ∧ Sim s' s2' ∧ Good s' ∧ s'.out = o ++ X := by
  cases f with
  | false => exact tok_end h hc hY ht hx ho hr
  | true =>
    cases hl : lineS (s1.els.length + 1) s1 t.col with
    | none => simp only [if_true, hl] at hr; cases hr
    | some s3 =>
      simp only [if_true, hl] at hr
      obtain ⟨X, s4, h1, h2, h3, h4⟩ := line_sim _ h hc hl
      exact tok_end h2 h3 (by rw [expl_app]; exact hY.app h1) ht hx (by rw [h4, ho, List.append_assoc]) hr
theorem brace_ne {t : Tok} (h : spT t [123] = true) : t.op = 8 ∧ tx t.text [123] = true ∧ tx t.text [40] = false ∧ tx t.text [91] = false := by
  unfold spT at h
  have h1 := Bool.and_eq_true_iff.1 h
  have h2 : t.text.data.toList = [123] := by have := h1.2; unfold tx at this; simpa using this
  refine ⟨by simpa using h1.1, h1.2, ?_, ?_⟩
  · unfold tx; rw [h2]; rfl
  · unfold tx; rw [h2]; rfl
theorem core_brace {s s' : St} {t : Tok} {w : ByteArray} (h : spT t [123] = true) (hr : core s t w = some s') : s'.out = s.out ++ [t] := by
  obtain ⟨h8, h1, h2, h3⟩ := brace_ne h
  have h9 : t.op ≠ 9 := by rw [h8]; decide
  rw [core_not h9, brk8 h8, h1, h2, h3] at hr
  injection hr with hr
  rw [← hr]
  show (itemS s t).out ++ [t] = _
  rw [item_out]
theorem core_module {s s' : St} {t : Tok} {w : ByteArray} (h : wdT t bModule = true) (hr : core s t w = some s') : s'.out = s.out ++ [t] := by
  unfold wdT at h
  have h1 := Bool.and_eq_true_iff.1 h
  have h9 : t.op = 9 := by simpa using h1.1
  have h2 : t.text.data.toList = bModule := by have := h1.2; unfold tx at this; simpa using this
  have n : ∀ l : List UInt8, l ≠ bModule → tx t.text l = false := by
    intro l hl
    unfold tx
    rw [h2]
    simpa using fun hh => hl hh.symm
  rw [core_key h9, key9 h9] at hr
  unfold keyR at hr
  rw [n bCase (by decide), n bIf (by decide), n bOf (by decide), n bThen (by decide), n bElse (by decide), n bIn (by decide)] at hr
  injection hr with hr
  rw [← hr]
  show (up (itemS s t) t).out ++ [t] = _
  rw [up_out, item_out]
/-- A token that nothing precedes where a block is awaited. -/
theorem tok_bare {s s2 s' : St} {t : Tok} (h : Sim s s2) (ht : t.auto = false) (hx : spT t [123] = true ∨ (s.word.data.toList.isEmpty && wdT t bModule) = true) (hr : core (rst s) t s.word = some s') (ho : s'.out = s.out ++ [t]) :
    ∃ X s2', Runs s2 (explL X) s2' ∧ Sim s' s2' ∧ Good s' ∧ s'.out = s.out ++ X := by
  obtain ⟨X, s2', s3, h1, h2, h3, h4, h5, h6, h7⟩ := side h.rst (rst_calm s) ht hr
  have hX : X = [] := by
    rw [ho] at h6
    have := congrArg List.length h6
    have h8 : (rst s).out = s.out := rfl
    rw [h8] at this
    simp at this
    exact this
  rw [hX] at h1
  have := h1.nil_eq
  subst this
  have he : explL [t] = [t] := by
    cases t
    simp only at ht
    subst ht; rfl
  refine ⟨[t], s3, ?_, h5, h7, ho⟩
  rw [he]
  refine .one (fun f => ?_)
  rw [token_no h.no t f (fun _ => by rw [h.word]; exact hx), h.word]
  exact h4
theorem tok_sim {s s2 s' : St} {t : Tok} {f : Bool} (h : Sim s s2) (hg : Good s) (ht : t.auto = false) (hr : tokenS s t f = some s') :
    ∃ X s2', Runs s2 (explL X) s2' ∧ Sim s' s2' ∧ Good s' ∧ s'.out = s.out ++ X := by
  rw [tok_eq] at hr
  cases he : s.exp with
  | false =>
    rw [he] at hr
    simp only [Bool.false_eq_true, if_false, Bool.not_false, Bool.and_true] at hr
    have hc : Calm s := ⟨he, hg.calm he⟩
    have hrs : rst s = s := calm_eq hc
    rw [hrs] at hr
    exact tok_line (X0 := []) h hc (.nil _) ht (.inr hc.2) (List.append_nil _).symm hr
  | true =>
    rw [he] at hr
    simp only [if_true] at hr
    unfold beginS at hr
    by_cases hb : spT t [123] = true
    · rw [if_pos hb] at hr
      simp only [Bool.not_true, Bool.and_false, Bool.false_eq_true, if_false] at hr
      exact tok_bare h ht (.inl hb) hr (core_brace (s := rst s) hb hr)
    rw [if_neg hb] at hr
    have hb' : spT t [123] = false := by simpa using hb
    by_cases hm : (s.word.data.toList.isEmpty && wdT t bModule) = true
    · rw [if_pos hm] at hr
      have hm2 := Bool.and_eq_true_iff.1 hm
      have hels : s.els = [] := hg.first he (by simpa using hm2.1)
      have hline : ∀ b : Bool, (if b = true then lineS ((rst s).els.length + 1) (rst s) t.col else some (rst s)) = some (rst s) := by
        intro b
        cases b with
        | false => rfl
        | true => exact line_no (s := rst s) (by show NoI s.els; rw [hels]; exact fun e he => absurd he List.not_mem_nil) _ _
      simp only at hr
      rw [hline] at hr
      have hr' : core (rst s) t s.word = some s' := hr
      exact tok_bare h ht (.inr hm) hr' (core_module (s := rst s) hm2.2 hr')
    rw [if_neg hm] at hr
    -- a brace is inserted
    have hit : itemS { s2 with exp := false, word := ⟨#[]⟩ } (exT 123) = { s2 with exp := false, word := ⟨#[]⟩ } := by
      have hl : s2.out.getLast? = s.out.getLast?.map xp := by rw [h.out]; exact List.getLast?_map ..
      have hg3 := hg.last he
      unfold itemS
      simp only
      rw [hl]
      cases hgl : s.out.getLast? with
      | none => rfl
      | some u =>
        have hu := hg3 u hgl
        have hu' : spT (xp u) [59] = false := hu
        simp only [Option.map_some, hu', Bool.false_and, Bool.false_eq_true, if_false]
    have hop := step_open h.no hit
    by_cases hcol : begC s < t.col
    · rw [if_pos hcol] at hr
      simp only [Bool.not_true, Bool.and_false, Bool.false_eq_true, if_false] at hr
      have hS : Sim (rst (pushE (insS s 123) ⟨0, t.col, s.word, false, 0, 0⟩)) { pushE { s2 with exp := false, word := ⟨#[]⟩ } ⟨1, 0, s2.word, false, 0, 0⟩ with out := s2.out ++ [exT 123] } := by
        have h1 : Sim (rst s) (rst s2) := h.rst
        have h2 := h1.push (e := ⟨0, t.col, s.word, false, 0, 0⟩) (e2 := ⟨1, 0, s2.word, false, 0, 0⟩) (by unfold key; rw [h.word]; rfl) (show (0 : Int) < 1 by decide)
        refine ⟨h2.els, h2.no, ?_, rfl, rfl⟩
        show s2.out ++ [exT 123] = explL (s.out ++ [insT 123])
        rw [expl_app, h.out]; rfl
      exact tok_end (X0 := [insT 123]) hS (rst_calm _) (.one hop) ht (.inl hb') rfl hr
    · rw [if_neg hcol] at hr
      simp only [Bool.not_false, Bool.and_true] at hr
      let s3 : St := { pushE { s2 with exp := false, word := ⟨#[]⟩ } ⟨1, 0, s2.word, false, 0, 0⟩ with out := s2.out ++ [exT 123] }
      have hn3 : NoI s3.els := by
        intro u hu
        rcases List.mem_append.1 hu with hu | hu
        · exact h.no u hu
        · rw [List.mem_singleton] at hu; subst hu; exact (show (0 : Int) < 1 by decide)
      obtain ⟨s4, x, g1, g2, g3, g4, g5, g6, g7⟩ := step_close (s := s3) (A := s2.els) (Q := []) hn3 ⟨rfl, rfl⟩ rfl rfl (fun u hu => absurd hu List.not_mem_nil)
      have hco : ∀ (u : St), (closedS u s.word).out = u.out ∧ (closedS u s.word).els.map key = u.els.map key ++ (if tx s.word bLet then [(7, ⟨#[]⟩)] else []) := by
        intro u
        unfold closedS
        split
        · refine ⟨rfl, ?_⟩
          show (u.els ++ [_]).map key = _
          rw [List.map_append]; rfl
        · exact ⟨rfl, (List.append_nil _).symm⟩
      have hS : Sim (rst (closedS (insS (insS s 123) 125) s.word)) s4 := by
        refine ⟨?_, g5, ?_, g6.1, g6.2⟩
        · show (closedS (insS (insS s 123) 125) s.word).els.map key = _
          rw [(hco _).2, g2]
          show s.els.map key ++ _ = _
          rw [List.map_append, h.els]
          congr 1
          show _ = List.map key (if tx s2.word bLet = true then [x] else [])
          rw [h.word]
          split
          · show _ = [key x]
            unfold key
            rw [g3, g4]; rfl
          · rfl
        · show _ = explL (closedS (insS (insS s 123) 125) s.word).out
          rw [g7, (hco _).1]
          show (s2.out ++ [exT 123]) ++ [exT 125] = explL ((s.out ++ [insT 123]) ++ [insT 125])
          rw [expl_app, expl_app, h.out]; rfl
      exact tok_line (X0 := [insT 123, insT 125]) hS (rst_calm _) (Runs.app (.one hop) (.one g1)) ht (.inl hb') (by
        show (closedS (insS (insS s 123) 125) s.word).out = _
        rw [(hco _).1]
        show (s.out ++ [insT 123]) ++ [insT 125] = _
        rw [List.append_assoc]; rfl) hr
/-- How many blocks can be closed before a parenthesis or a bracket, from the top on. -/
def av : List El → Nat
  | [] => 0
  | e :: r => if (e.kind == 2) || (e.kind == 3) then 0 else (if e.kind == 1 then 1 else 0) + av r
theorem endE_in (R : List El) : ∀ {out l : List Tok}, endE R true out = some l → l = out := by
  induction R with
  | nil => intro out l h; injection h with h; exact h.symm
  | cons e R ih =>
    intro out l h
    unfold endE at h
    split at h
    · exact ih h
    · split at h
      · cases h
      · exact ih h
theorem endE_av (R : List El) : ∀ {R2 : List El} {out l : List Tok}, R.map key = R2.map key → NoI R2 → endE R false out = some l → ∃ k, l = out ++ rep k ∧ k ≤ av R2 := by
  induction R with
  | nil => intro R2 out l _ _ h; injection h with h; exact ⟨0, by rw [← h]; exact (List.append_nil _).symm, Nat.zero_le _⟩
  | cons e R ih =>
    intro R2 out l hk hn h
    cases R2 with
    | nil => cases hk
    | cons e2 R2 =>
      rw [List.map_cons, List.map_cons, List.cons.injEq] at hk
      have he := (key_kind hk.1 (hn e2 (List.mem_cons_self ..))).1
      have hn' : NoI R2 := fun u hu => hn u (List.mem_cons_of_mem _ hu)
      unfold endE at h
      by_cases h2 : ((e.kind == 2) || (e.kind == 3)) = true
      · rw [if_pos h2] at h
        exact ⟨0, by rw [endE_in R h]; exact (List.append_nil _).symm, Nat.zero_le _⟩
      · rw [if_neg h2] at h
        by_cases h0 : e.kind = 0
        · rw [if_pos (by rw [h0]; rfl)] at h
          simp only [Bool.false_eq_true, if_false] at h
          obtain ⟨k, g1, g2⟩ := ih hk.2 hn' h
          rw [if_pos h0] at he
          refine ⟨k + 1, ?_, ?_⟩
          · rw [g1]
            unfold rep
            rw [List.replicate_succ]; simp
          · unfold av
            rw [he]
            show k + 1 ≤ 1 + av R2
            omega
        · rw [if_neg (by simpa using h0)] at h
          obtain ⟨k, g1, g2⟩ := ih hk.2 hn' h
          rw [if_neg h0] at he
          refine ⟨k, g1, ?_⟩
          unfold av
          rw [he, if_neg h2]
          omega
theorem endE_no {R : List El} (h : NoI R) : ∀ (b : Bool) (out : List Tok), endE R b out = some out := by
  induction R with
  | nil => intro b out; rfl
  | cons e R ih =>
    intro b out
    have h0 := h e (List.mem_cons_self ..)
    have hR : NoI R := fun u hu => h u (List.mem_cons_of_mem _ hu)
    unfold endE
    split
    · exact ih hR true out
    · rw [if_neg (by simp; omega)]
      exact ih hR b out
theorem av_split (R : List El) : ∀ {k : Nat}, NoI R → k + 1 ≤ av R → ∃ B e C, R = B ++ e :: C ∧ e.kind = 1 ∧ Pens B ∧ k ≤ av C := by
  induction R with
  | nil => intro k _ h; exact absurd h (Nat.not_succ_le_zero _)
  | cons e R ih =>
    intro k hn h
    unfold av at h
    split at h
    · exact absurd h (Nat.not_succ_le_zero _)
    · rename_i h2
      by_cases h1 : e.kind = 1
      · rw [if_pos (by rw [h1]; rfl)] at h
        exact ⟨[], e, R, rfl, h1, fun u hu => absurd hu List.not_mem_nil, by omega⟩
      · rw [if_neg (by simpa using h1)] at h
        obtain ⟨B, e1, C, g1, g2, g3, g4⟩ := ih (fun u hu => hn u (List.mem_cons_of_mem _ hu)) (by omega : k + 1 ≤ av R)
        refine ⟨e :: B, e1, C, by rw [g1]; rfl, g2, fun u hu => ?_, g4⟩
        rcases List.mem_cons.1 hu with rfl | hu
        · have h0 := hn u (List.mem_cons_self ..)
          have h2' : ¬ u.kind = 2 ∧ ¬ u.kind = 3 := by simpa using h2
          unfold isPen
          simp; omega
        · exact g3 u hu
theorem close_runs (k : Nat) : ∀ {s : St}, NoI s.els → Calm s → k ≤ av s.els.reverse → ∃ s', Runs s (List.replicate k (exT 125)) s' ∧ NoI s'.els ∧ Calm s' ∧ s'.out = s.out ++ List.replicate k (exT 125) := by
  induction k with
  | zero => intro s hn hc _; exact ⟨s, .nil _, hn, hc, (List.append_nil _).symm⟩
  | succ k ih =>
    intro s hn hc h
    obtain ⟨B, e, C, h1, h2, h3, h4⟩ := av_split _ (fun u hu => hn u (List.mem_reverse.1 hu)) h
    have hs : s.els = C.reverse ++ e :: B.reverse := by
      have := congrArg List.reverse h1
      rw [List.reverse_reverse] at this
      rw [this]; simp
    obtain ⟨s1, x, g1, g2, g3, g4, g5, g6, g7⟩ := step_close hn hc hs h2 (fun u hu => h3 u (List.mem_reverse.1 hu))
    have hav : k ≤ av s1.els.reverse := by
      rw [g2]
      split
      · rw [List.reverse_append, List.reverse_reverse]
        show k ≤ av (x :: C)
        unfold av
        rw [g3]
        show k ≤ 0 + av C
        omega
      · rw [List.append_nil, List.reverse_reverse]; exact h4
    obtain ⟨s2, j1, j2, j3, j4⟩ := ih g5 g6 hav
    exact ⟨s2, by rw [List.replicate_succ]; exact .cons g1 j1, j2, j3, by rw [j4, g7, List.replicate_succ]; simp⟩
theorem end_sim {s s2 : St} {r : List Tok} (h : Sim s s2) (hg : Good s) (hr : endS s = some r) :
    ∃ X s2', Runs s2 (explL X) s2' ∧ NoI s2'.els ∧ Calm s2' ∧ s2'.out = explL r ∧ r = s.out ++ X := by
  unfold endS at hr
  have hrev : s.els.reverse.map key = s2.els.reverse.map key := by rw [List.map_reverse, List.map_reverse, h.els]
  have hnr : NoI s2.els.reverse := fun u hu => h.no u (List.mem_reverse.1 hu)
  obtain ⟨k, h1, h2⟩ := endE_av _ hrev hnr hr
  cases he : s.exp with
  | false =>
    have hc : Calm s := ⟨he, hg.calm he⟩
    obtain ⟨s2', g1, g2, g3, g4⟩ := close_runs k h.no (h.calm hc) h2
    refine ⟨rep k, s2', by rw [expl_rep]; exact g1, g2, g3, ?_, ?_⟩
    · rw [g4, h1, he, if_neg Bool.false_ne_true, expl_app, expl_rep, h.out]
    · rw [h1, he, if_neg Bool.false_ne_true]
  | true =>
    have hit : itemS { s2 with exp := false, word := ⟨#[]⟩ } (exT 123) = { s2 with exp := false, word := ⟨#[]⟩ } := by
      have hl : s2.out.getLast? = s.out.getLast?.map xp := by rw [h.out]; exact List.getLast?_map ..
      have hg3 := hg.last he
      unfold itemS
      simp only
      rw [hl]
      cases hgl : s.out.getLast? with
      | none => rfl
      | some u =>
        have hu := hg3 u hgl
        have hu' : spT (xp u) [59] = false := hu
        simp only [Option.map_some, hu', Bool.false_and, Bool.false_eq_true, if_false]
    have hop := step_open h.no hit
    let s3 : St := { pushE { s2 with exp := false, word := ⟨#[]⟩ } ⟨1, 0, s2.word, false, 0, 0⟩ with out := s2.out ++ [exT 123] }
    have hn3 : NoI s3.els := by
      intro u hu
      rcases List.mem_append.1 hu with hu | hu
      · exact h.no u hu
      · rw [List.mem_singleton] at hu; subst hu; exact (show (0 : Int) < 1 by decide)
    obtain ⟨s4, x, g1, g2, g3, g4, g5, g6, g7⟩ := step_close (s := s3) (A := s2.els) (Q := []) hn3 ⟨rfl, rfl⟩ rfl rfl (fun u hu => absurd hu List.not_mem_nil)
    have g2' : s4.els = s2.els ++ (if tx s2.word bLet then [x] else []) := g2
    have hav : k ≤ av s4.els.reverse := by
      rw [g2']
      split
      · rw [List.reverse_append]
        show k ≤ av (x :: s2.els.reverse)
        unfold av
        rw [g3]
        show k ≤ 0 + av s2.els.reverse
        omega
      · rw [List.append_nil]; exact h2
    obtain ⟨s5, j1, j2, j3, j4⟩ := close_runs k g5 g6 hav
    refine ⟨insT 123 :: insT 125 :: rep k, s5, ?_, j2, j3, ?_, ?_⟩
    · have := (Runs.one hop).app ((Runs.one g1).app j1)
      rw [← expl_rep] at this
      exact this
    · rw [j4, g7, h1, he, if_pos rfl, expl_app, expl_rep, expl_app, ← h.out]
      show ((s2.out ++ [exT 123]) ++ [exT 125]) ++ _ = (s2.out ++ [exT 123, exT 125]) ++ _
      simp
    · rw [h1, he, if_pos rfl, List.append_assoc]; rfl
theorem ins_sim (l : List Tok) : ∀ {last : Option Tok} {s s2 : St} {r : List Tok}, Sim s s2 → Good s → (∀ t ∈ l, t.auto = false) → insF l last s = .ok r →
    ∃ X s2', Runs s2 (explL X) s2' ∧ NoI s2'.els ∧ Calm s2' ∧ s2'.out = explL r ∧ r.length ≤ 16384 ∧ r = s.out ++ X := by
  induction l with
  | nil =>
    intro last s s2 r h hg _ hr
    unfold insF at hr
    cases he : endS s with
    | none =>
      rw [he] at hr
      cases last with
      | none => cases hr
      | some p => cases hr
    | some q =>
      rw [he] at hr
      simp only at hr
      split at hr
      · cases hr
      · rename_i hlen
        injection hr with hr
        subst hr
        obtain ⟨Y, s2', h1, h2, h3, h4, h5⟩ := end_sim h hg he
        exact ⟨Y, s2', h1, h2, h3, h4, by omega, h5⟩
  | cons t l ih =>
    intro last s s2 r h hg ha hr
    unfold insF at hr
    split at hr
    · cases hr
    · rename_i s1 hs
      obtain ⟨Y, s3, h1, h2, h3, h4⟩ := tok_sim h hg (ha t (List.mem_cons_self ..)) hs
      obtain ⟨Z, s4, g1, g2, g3, g4, g5, g6⟩ := ih h2 h3 (fun u hu => ha u (List.mem_cons_of_mem _ hu)) hr
      exact ⟨Y ++ Z, s4, by rw [expl_app]; exact h1.app g1, g2, g3, g4, g5, by rw [g6, h4, List.append_assoc]⟩
theorem runs_ins {s s' : St} {l : List Tok} (h : Runs s l s') : ∀ (last : Option Tok) {r : List Tok}, NoI s'.els → Calm s' → s'.out = r → r.length ≤ 16384 → insF l last s = .ok r := by
  induction h with
  | nil s =>
    intro last r hn hc ho hl
    unfold insF endS
    rw [hc.1, if_neg Bool.false_ne_true, endE_no (fun u hu => hn u (List.mem_reverse.1 hu)), ho]
    simp only
    rw [if_neg (by omega)]
  | cons h1 _ ih =>
    intro last r hn hc ho hl
    unfold insF
    rw [h1]
    exact ih _ hn hc ho hl
/-- Insert of what Explicit makes of a result gives the same tokens. -/
theorem insP_expl {l r : List Tok} (h : insP l = .ok r) : insP (explL r) = .ok (explL r) := by
  unfold insP at h
  split at h
  · cases h
  · rename_i ha
    have ha' : ∀ t ∈ l, t.auto = false := by
      intro t ht
      cases hx : t.auto with
      | false => rfl
      | true => exact absurd (List.any_eq_true.2 ⟨t, ht, hx⟩) ha
    let s0 : St := ⟨[], 0, [], true, ⟨#[]⟩⟩
    have h0 : Sim s0 s0 := ⟨rfl, fun e he => absurd he List.not_mem_nil, rfl, rfl, rfl⟩
    have hg : Good s0 := ⟨fun _ => rfl, fun _ _ => rfl, fun _ u hu => by cases hu⟩
    obtain ⟨X, s1, h1, h2, h3, h4, h5, h6⟩ := ins_sim l h0 hg ha' h
    have hX : X = r := h6.symm
    subst hX
    have hlen : (explL X).length ≤ 16384 := by unfold explL; rw [List.length_map]; exact h5
    unfold insP
    rw [if_neg (by
      intro hh
      obtain ⟨t, ht, hx⟩ := List.any_eq_true.1 hh
      unfold explL at ht
      obtain ⟨u, _, hu⟩ := List.mem_map.1 ht
      rw [← hu] at hx
      cases hx)]
    exact runs_ins h1 none h2 h3 h4 hlen
end Go.Proofs.Ytkdogaomlocijaa
