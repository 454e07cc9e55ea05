/-
  WALKS. The search: what a visit leaves; the boxes of its variables.
-/
import Derived.Test.YtijohaeiiidcpaaGbE
namespace Go.Proofs.Ytijohaeiiidcpaa
open Go.RowKit Go.Maps
/-- So many steps. -/
inductive StN (G : List (List Nat)) : Nat → SS → SS → Prop
  | zero (s : SS) : StN G 0 s s
  | snoc {j : Nat} {s t : SS} : StN G j s t → t.path ≠ [] → StN G (j + 1) s (stepS G t)
section
variable {G : List (List Nat)} {s t : SS}
theorem step_lt (hG : ValidG G) (h : Lt G s) (hp : s.path ≠ []) : Lt G (stepS G s) := by
  rcases path_cases s.path with e | ⟨A, u, e⟩
  · exact absurd e hp
  have hend : endS s = u := endS_app e
  unfold stepS
  rw [hend]
  cases he : nx G u (gt s.looked u) with
  | some v =>
    simp only
    by_cases hv : gt s.place v = 0
    · rw [if_pos hv]
      exact enter_lt h (hG u _ v he) hv (.inr (by rw [hend]; exact he))
    · rw [if_neg hv]
      exact look_lt h e he
  | none =>
    simp only
    exact leave_lt h e
theorem StN.lt (hG : ValidG G) {j : Nat} (k : StN G j s t) (h : Lt G s) : Lt G t := by
  induction k with
  | zero => exact h
  | snoc _ hp ih => exact step_lt hG (ih h) hp
theorem StN.mu (hG : ValidG G) {j : Nat} (k : StN G j s t) (h : Lt G s) : mu G t + j ≤ mu G s := by
  induction k with
  | zero => exact Nat.le_refl _
  | snoc k hp ih =>
    have h1 := ih h
    have h2 := step_mu hG (k.lt hG h) hp
    omega
theorem StN.run {j : Nat} (k : StN G j s t) : ∀ f, runS G (f + j) s = runS G f t := by
  induction k with
  | zero => intro f; rfl
  | @snoc j s t _ hp ih =>
    intro f
    rw [show f + (j + 1) = (f + 1) + j by omega, ih (f + 1), run_step hp]
theorem StN.add {j k : Nat} {q : SS} (h : StN G j s t) (h2 : StN G k t q) : StN G (j + k) s q := by
  induction h2 with
  | zero => exact h
  | snoc _ hp ih => exact (ih h).snoc hp
theorem Lt.olen (h : Lt G s) : s.opn.length ≤ G.length := by have := h.lst; have := h.fnd; omega
theorem Lt.plen (h : Lt G s) : s.path.length ≤ G.length := Nat.le_trans h.sub.length_le h.olen
end
/-- The two boxes that the visit captures: the search's address, and the visit. -/
structure BX (w : World) (b bs bv : Nat) : Prop where
  s : w.heap[bs]? = some (.cells #[.pointer (some ⟨b, 0, none⟩)] 67 (0, 0))
  v : w.heap[bv]? = some (.cells #[.func (.func 48) #[] #[.pointer (some ⟨bs, 0, none⟩), .pointer (some ⟨bv, 0, none⟩)]] 69 (0, 0))
section
variable {w w' : World} {B b bs bv : Nat} {vE : Value} {r : Nat → Value} {s : SS}
theorem BX.cs (h : BX w b bs bv) : w.cell? ⟨bs, 0, none⟩ = some (.pointer (some ⟨b, 0, none⟩)) := (blk_c h.s rfl).1
theorem BX.cv (h : BX w b bs bv) : w.cell? ⟨bv, 0, none⟩ = some (.func (.func 48) #[] #[.pointer (some ⟨bs, 0, none⟩), .pointer (some ⟨bv, 0, none⟩)]) := (blk_c h.v rfl).1
theorem BX.frm (h : BX w b bs bv) (hS : SM w B b vE r s) (hF : FG B b w w') : BX w' b bs bv := by
  refine ⟨(hF.block bs (lt_of_block h.s) (fun hc => ?_)).trans h.s, (hF.block bv (lt_of_block h.v) (fun hc => ?_)).trans h.v⟩
  · rcases hc with hc | ⟨-, cs, m, hc⟩
    · have h1 := h.s
      rw [hc, hS.blk] at h1
      exact absurd (Obj.cells.inj (Option.some.inj h1)).2.1 (by decide)
    · rw [h.s] at hc
      exact absurd (Obj.cells.inj (Option.some.inj hc)).2.1 (by decide)
  · rcases hc with hc | ⟨-, cs, m, hc⟩
    · have h1 := h.v
      rw [hc, hS.blk] at h1
      exact absurd (Obj.cells.inj (Option.some.inj h1)).2.1 (by decide)
    · rw [h.v] at hc
      exact absurd (Obj.cells.inj (Option.some.inj hc)).2.1 (by decide)
theorem BX.same (h : BX w b bs bv) (ho : Only (fun _ => False) w w') : BX w' b bs bv := ⟨(ho.block bs (lt_of_block h.s) (fun hc => hc)).trans h.s, (ho.block bv (lt_of_block h.v) (fun hc => hc)).trans h.v⟩
end
/-- The graph, as it lay when the search began. -/
structure GE (w0 : World) (B : Nat) (oE : Option Addr) (G : List (List Nat)) : Prop where
  edg : Edg w0 oE G.length G
  low : w0.heap.size ≤ B
  val : ValidG G
  len : G.length ≤ 1000000
  deg : ∀ u, degG G u ≤ 100000000
/-- What a visit leaves. -/
def VP (w : World) (B b : Nat) (vE : Value) (G : List (List Nat)) (s : SS) (A : List Nat) (u : Nat) (e : Ending) (w' : World) : Prop :=
  e = .returned (.tuple #[]) ∧ ∃ j s', StN G (j + 1) s s' ∧ SMx w B b vE s' w' ∧ ((∃ t, Lt G t ∧ t.path = A ++ [u] ∧ s' = leaveS t u) ∨ ∃ q, q ≠ [] ∧ s'.path = A ++ [u] ++ q)
/-- The visit's contract, at so many calls. -/
def VC (w0 : World) (B b bs bv : Nat) (oE : Option Addr) (cE : Nat) (G : List (List Nat)) (c : Nat) : Prop :=
  ∀ (w : World) (r : Nat → Value) (s : SS) (A : List Nat) (u : Nat), SM w B b (.slice oE G.length cE) r s → Lt G s → s.path = A ++ [u] → Only (B ≤ ·) w0 w → BX w b bs bv →
    Calls Try.prog 48 #[iV u, iV c, .pointer (some ⟨bs, 0, none⟩), .pointer (some ⟨bv, 0, none⟩)] w (VP w B b (.slice oE G.length cE) G s A u)
theorem Edg.row {w : World} {oa : Option Addr} {n : Nat} {G : List (List Nat)} (h : Edg w oa n G) {u : Nat} (hu : u < G.length) : ∃ b o ra rc, oa = some ⟨b, o, none⟩ ∧ w.cell? ⟨b, o + u, none⟩ = some (.slice ra (degG G u) rc) ∧ ∀ k v, nx G u k = some v → ∃ b' o', ra = some ⟨b', o', none⟩ ∧ w.cell? ⟨b', o' + k, none⟩ = some (iV v) := by
  obtain ⟨b, o, ra, rn, rc, e, hc, hi⟩ := h.cell u hu
  have hd : degG G u = G[u].length := by unfold degG; rw [List.getD_eq_getElem?_getD, List.getElem?_eq_getElem hu]; rfl
  have hG : G.getD u [] = G[u] := by rw [List.getD_eq_getElem?_getD, List.getElem?_eq_getElem hu]; rfl
  refine ⟨b, o, ra, rc, e, by rw [hd, hi.len]; exact hc, fun k v hk => ?_⟩
  unfold nx at hk
  rw [hG] at hk
  have hkl := (List.getElem?_eq_some_iff.1 hk).1
  obtain ⟨b', o', e', hc'⟩ := hi.cell k hkl
  refine ⟨b', o', e', ?_⟩
  rw [gt_at hkl] at hc'
  rw [(List.getElem?_eq_some_iff.1 hk).2] at hc'
  exact hc'
end Go.Proofs.Ytijohaeiiidcpaa
