/-
  PLAIN. Of the layout algorithm: its run over its own output: words; a whole token; the end; Insert of what Explicit makes of its result.
-/
import Derived.Test.YtkdogaomlocijaaIns8
namespace Go.Proofs.Ytkdogaomlocijaa
open Go.RowKit
def up (s : St) (t : Tok) : St := if opens t then { s with exp := true, word := t.text } else s
def keyR (s : St) (t : Tok) : Option St :=
  if tx t.text bCase then some (pushE s (elK 4))
  else if tx t.text bIf then some (pushE s (elK 5))
  else if tx t.text bOf then (closeTo s (isK 4)).map (·.2)
  else if tx t.text bThen then (closeTo s (isK 5)).map fun r => pushE r.2 (elK 6)
  else if tx t.text bElse then (closeTo s (isK 6)).map (·.2)
  else if tx t.text bIn then (closeTo s letE).map (·.2)
  else some s
theorem key9 {s : St} {t : Tok} (h : t.op = 9) : keyS s t = (keyR s t).map fun s => up s t := by
  unfold keyS
  rw [if_pos (by rw [h]; rfl)]
  rfl
theorem tx_ne {s : ByteArray} {l : List UInt8} (h : tx s l = true) (hl : l ≠ []) : s.data.toList ≠ [] := by
  unfold tx at h
  have : s.data.toList = l := by simpa using h
  rw [this]; exact hl
theorem opens_ne {t : Tok} (h : opens t = true) : t.text.data.toList ≠ [] := by
  unfold opens at h
  have h2 := (Bool.and_eq_true_iff.1 h).2
  rcases Bool.or_eq_true_iff.1 h2 with h2 | h2
  · rcases Bool.or_eq_true_iff.1 h2 with h2 | h2
    · rcases Bool.or_eq_true_iff.1 h2 with h2 | h2
      · exact tx_ne h2 (by decide)
      · exact tx_ne h2 (by decide)
    · exact tx_ne h2 (by decide)
  · exact tx_ne h2 (by decide)
theorem Sim.up {s s2 : St} (h : Sim s s2) (t : Tok) : Sim (up s t) (up s2 t) := by
  unfold Go.Proofs.Ytkdogaomlocijaa.up
  split
  · exact ⟨h.els, h.no, h.out, rfl, rfl⟩
  · exact h
theorem up_out (s : St) (t : Tok) : (up s t).out = s.out := by unfold up; split <;> rfl
theorem good_up {s : St} (h : Calm s) {t : Tok} (h9 : t.op = 9) : Good { up s t with out := (up s t).out ++ [t] } := by
  have hs : spT t [59] = false := by unfold spT; rw [h9]; rfl
  have hlast : ∀ u, ((up s t).out ++ [t]).getLast? = some u → spT u [59] = false := by
    intro u hu
    rw [List.getLast?_concat] at hu
    injection hu with hu; subst hu; exact hs
  refine ⟨fun h1 => ?_, fun h1 h2 => ?_, fun _ => hlast⟩
  · have h1' : (up s t).exp = false := h1
    show (up s t).word = _
    unfold up at h1' ⊢
    split at h1'
    · cases h1'
    · rename_i ho
      rw [if_neg ho]; exact h.2
  · have h1' : (up s t).exp = true := h1
    have h2' : (up s t).word.data.toList = [] := h2
    unfold up at h1' h2'
    split at h1'
    · rename_i ho
      rw [if_pos ho] at h2'
      exact absurd h2' (opens_ne ho)
    · rw [h.1] at h1'; cases h1'
theorem side_fin {s s2 s2' s3 s4 : St} {X : List Tok} {t : Tok} {w : ByteArray} (h9 : t.op = 9) (ht : t.auto = false) (hr : Runs s2 (explL X) s2') (hn : NoI s2'.els) (hc : Calm s2')
    (hk : keyR (itemS s2' t) t = some s4) (hS : Sim s3 s4) (hc3 : Calm s3) (ho : s3.out = s.out ++ X) : Side s s2 { up s3 t with out := (up s3 t).out ++ [t] } t w :=
  ⟨X, s2', { up s4 t with out := (up s4 t).out ++ [t] }, hr, hn, hc, by rw [core_key h9, key9 h9, hk]; rfl, (hS.up t).outs ht, by
    show (up s3 t).out ++ [t] = _
    rw [up_out, ho], good_up hc3 h9⟩
theorem side_kc {s s2 : St} {t : Tok} {w : ByteArray} {k : Int} {e : El} {s1 : St} (h : Sim s s2) (hc : Calm s) (h9 : t.op = 9) (ht : t.auto = false) (h0 : k ≠ 0) (h7 : k ≠ 7)
    (hcl : closeTo (itemS s t) (isK k) = some (e, s1)) (f : St → St) (hf : ∀ a b, Sim a b → Sim (f a) (f b)) (hfc : ∀ a, Calm a → Calm (f a)) (hfo : ∀ a, (f a).out = a.out)
    (hk : ∀ u : St, keyR u t = (closeTo u (isK k)).map fun r => f r.2) : Side s s2 { up (f s1) t with out := (up (f s1) t).out ++ [t] } t w := by
  obtain ⟨A, Q, _, g2, _⟩ := closeTo_spec hcl
  have hek : e.kind ≠ 0 := by
    unfold isK at g2
    have : e.kind = k := by simpa using g2
    rw [this]; exact h0
  obtain ⟨m, s2', e2, s3, k1, k2, k3, k4, k5, k6, _, k8⟩ := close_sim h hc hcl hek (tr_k h7 g2)
  exact side_fin h9 ht k1 k2 k3 (by rw [hk, k4]; rfl) (hf _ _ k5) (hfc _ k6) ((hfo _).trans k8)
theorem side_key {s s2 s' : St} {t : Tok} {w : ByteArray} (h : Sim s s2) (hc : Calm s) (ht : t.auto = false) (h9 : t.op = 9) (hr : core s t w = some s') : Side s s2 s' t w := by
  have hI := item_sim h t
  have hIc := item_calm hc t
  have hIo := item_out s t
  have same : ∀ {s3 s4 : St}, keyR (itemS s2 t) t = some s4 → Sim s3 s4 → Calm s3 → s3.out = s.out → Side s s2 { up s3 t with out := (up s3 t).out ++ [t] } t w := fun hk hS hc3 ho =>
    side_fin (X := []) h9 ht (.nil _) h.no (h.calm hc) hk hS hc3 (by rw [ho, List.append_nil])
  rw [core_key h9, key9 h9] at hr
  unfold keyR at hr
  by_cases a1 : tx t.text bCase = true
  · rw [if_pos a1] at hr
    injection hr with hr; subst hr
    exact same (by unfold keyR; rw [if_pos a1]) (hI.push rfl (by decide)) hIc hIo
  rw [if_neg a1] at hr
  by_cases a2 : tx t.text bIf = true
  · rw [if_pos a2] at hr
    injection hr with hr; subst hr
    exact same (by unfold keyR; rw [if_neg a1, if_pos a2]) (hI.push rfl (by decide)) hIc hIo
  rw [if_neg a2] at hr
  by_cases a3 : tx t.text bOf = true
  · rw [if_pos a3] at hr
    cases hcl : closeTo (itemS s t) (isK 4) with
    | none => rw [hcl] at hr; cases hr
    | some r =>
      rw [hcl] at hr
      injection hr with hr; subst hr
      exact side_kc (k := 4) h hc h9 ht (by decide) (by decide) hcl id (fun _ _ h => h) (fun _ h => h) (fun _ => rfl) (fun u => by unfold keyR; rw [if_neg a1, if_neg a2, if_pos a3]; rfl)
  rw [if_neg a3] at hr
  by_cases a4 : tx t.text bThen = true
  · rw [if_pos a4] at hr
    cases hcl : closeTo (itemS s t) (isK 5) with
    | none => rw [hcl] at hr; cases hr
    | some r =>
      rw [hcl] at hr
      injection hr with hr; subst hr
      exact side_kc (k := 5) h hc h9 ht (by decide) (by decide) hcl (fun a => pushE a (elK 6)) (fun _ _ h => h.push rfl (by decide)) (fun _ h => h) (fun _ => rfl) (fun u => by unfold keyR; rw [if_neg a1, if_neg a2, if_neg a3, if_pos a4])
  rw [if_neg a4] at hr
  by_cases a5 : tx t.text bElse = true
  · rw [if_pos a5] at hr
    cases hcl : closeTo (itemS s t) (isK 6) with
    | none => rw [hcl] at hr; cases hr
    | some r =>
      rw [hcl] at hr
      injection hr with hr; subst hr
      exact side_kc (k := 6) h hc h9 ht (by decide) (by decide) hcl id (fun _ _ h => h) (fun _ h => h) (fun _ => rfl) (fun u => by unfold keyR; rw [if_neg a1, if_neg a2, if_neg a3, if_neg a4, if_pos a5]; rfl)
  rw [if_neg a5] at hr
  by_cases a6 : tx t.text bIn = true
  · rw [if_pos a6] at hr
    cases hcl : closeTo (itemS s t) letE with
    | none => rw [hcl] at hr; cases hr
    | some r =>
      obtain ⟨e, s1⟩ := r
      rw [hcl] at hr
      injection hr with hr; subst hr
      have hk : ∀ u : St, keyR u t = (closeTo u letE).map (·.2) := fun u => by unfold keyR; rw [if_neg a1, if_neg a2, if_neg a3, if_neg a4, if_neg a5, if_pos a6]
      by_cases h0 : e.kind = 0
      · obtain ⟨m, s2', e2, s3, k1, k2, k3, k4, k5, k6, k8⟩ := in_sim h hc hcl h0
        exact side_fin h9 ht k1 k2 k3 (by rw [hk, k4]; rfl) k5 k6 k8
      · obtain ⟨A, Q, _, g2, _⟩ := closeTo_spec hcl
        obtain ⟨m, s2', e2, s3, k1, k2, k3, k4, k5, k6, _, k8⟩ := close_sim h hc hcl h0 (tr_let g2 h0)
        exact side_fin h9 ht k1 k2 k3 (by rw [hk, k4]; rfl) k5 k6 k8
  rw [if_neg a6] at hr
  injection hr with hr; subst hr
  exact same (by unfold keyR; rw [if_neg a1, if_neg a2, if_neg a3, if_neg a4, if_neg a5, if_neg a6]) hI hIc hIo
theorem side {s s2 s' : St} {t : Tok} {w : ByteArray} (h : Sim s s2) (hc : Calm s) (ht : t.auto = false) (hr : core s t w = some s') : Side s s2 s' t w := by
  by_cases h8 : t.op = 8
  · exact side_brk h hc ht h8 hr
  · by_cases h9 : t.op = 9
    · exact side_key h hc ht h9 hr
    · exact side_else h hc ht h8 h9 hr
end Go.Proofs.Ytkdogaomlocijaa
