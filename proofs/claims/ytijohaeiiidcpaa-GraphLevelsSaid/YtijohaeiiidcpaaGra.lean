/-
  PLAIN. The search for components as a machine on lists (no program): what a step keeps; its measure.
-/
import Derived.WalkKit
namespace Go.Proofs.Ytijohaeiiidcpaa
/-- The i-th number of a list, or 0. -/
def gt (l : List Nat) (i : Nat) : Nat := l.getD i 0
theorem gt_set {l : List Nat} {i : Nat} (h : i < l.length) (v j : Nat) : gt (l.set i v) j = if j = i then v else gt l j := by
  unfold gt
  rw [List.getD_eq_getElem?_getD, List.getD_eq_getElem?_getD, List.getElem?_set]
  by_cases e : j = i
  · subst e; simp [h]
  · rw [if_neg (fun h => e h.symm), if_neg e]
theorem gt_ge {l : List Nat} {i : Nat} (h : l.length ≤ i) : gt l i = 0 := by unfold gt; rw [List.getD_eq_getElem?_getD, List.getElem?_eq_none h]; rfl
theorem gt_lt {l : List Nat} {i : Nat} (h : gt l i ≠ 0) : i < l.length := Nat.lt_of_not_le (fun h' => h (gt_ge h'))
theorem gt_at {l : List Nat} {i : Nat} (h : i < l.length) : gt l i = l[i] := by unfold gt; rw [List.getD_eq_getElem?_getD, List.getElem?_eq_getElem h]; rfl
structure SS where
  place : List Nat
  lowest : List Nat
  looked : List Nat
  number : List Nat
  path : List Nat
  opn : List Nat
  found : Nat
  last : Nat
def degG (G : List (List Nat)) (u : Nat) : Nat := (G.getD u []).length
def nx (G : List (List Nat)) (u k : Nat) : Option Nat := (G.getD u [])[k]?
def enterS (s : SS) (v : Nat) : SS := { s with place := s.place.set v (s.found + 1), lowest := s.lowest.set v (s.found + 1), path := s.path ++ [v], opn := s.opn ++ [v], found := s.found + 1 }
def lookS (s : SS) (u v : Nat) : SS := { s with lowest := if gt s.number v = 0 then s.lowest.set u (min (gt s.lowest u) (gt s.lowest v)) else s.lowest, looked := s.looked.set u (gt s.looked u + 1) }
/-- The open nodes, the last first, are closed until u is. -/
def popR (u n : Nat) : List Nat → List Nat → List Nat × List Nat
  | [], nb => (nb, [])
  | x :: r, nb => if gt nb u = 0 then popR u n r (nb.set x n) else (nb, x :: r)
def leaveS (s : SS) (u : Nat) : SS :=
  if gt s.lowest u < gt s.place u then { s with path := s.path.dropLast } else
  { s with path := s.path.dropLast, last := s.last + 1, number := (popR u (s.last + 1) s.opn.reverse s.number).1, opn := (popR u (s.last + 1) s.opn.reverse s.number).2.reverse }
def endS (s : SS) : Nat := s.path.getLastD 0
def stepS (G : List (List Nat)) (s : SS) : SS := match nx G (endS s) (gt s.looked (endS s)) with
  | some v => if gt s.place v = 0 then enterS s v else lookS s (endS s) v
  | none => leaveS s (endS s)
def runS (G : List (List Nat)) : Nat → SS → SS
  | 0, s => s
  | f + 1, s => if s.path = [] then s else runS G f (stepS G s)
def zeros (n : Nat) : List Nat := List.replicate n 0
def s0S (n : Nat) : SS := ⟨zeros n, zeros n, zeros n, zeros n, [], [], 0, 0⟩
/-- How much is to be done at most. -/
def cz (l : List Nat) : Nat := l.countP (· == 0)
def rest : List (List Nat) → List Nat → Nat
  | g :: G, k :: l => (g.length - k) + rest G l
  | _, _ => 0
def mu (G : List (List Nat)) (s : SS) : Nat := 2 * cz s.place + rest G s.looked + s.path.length
def fuelG (G : List (List Nat)) : Nat := 2 * G.length + (G.map List.length).sum + 1
def startS (G : List (List Nat)) (s : SS) (v : Nat) : SS := runS G (fuelG G) (if gt s.place v = 0 then enterS s v else s)
def numbersS (G : List (List Nat)) (starts : List Nat) : List Nat := (starts.foldl (startS G) (s0S G.length)).number
theorem ex_num : numbersS [[1], [0], [0]] [0, 1, 2] = [1, 1, 2] := by decide
theorem cz_set {l : List Nat} {i v : Nat} (h : i < l.length) (h0 : gt l i = 0) (hv : v ≠ 0) : cz (l.set i v) + 1 = cz l := by
  induction l generalizing i with
  | nil => simp at h
  | cons x l ih =>
    cases i with
    | zero =>
      have hx : x = 0 := h0
      subst hx
      show List.countP _ (v :: l) + 1 = List.countP _ (0 :: l)
      have h1 : ((v == 0) = false) := by simpa using hv
      rw [List.countP_cons_of_neg (by simp [h1]), List.countP_cons_of_pos (by rfl)]
    | succ i =>
      have := ih (i := i) (by simpa using h) h0
      show List.countP _ (x :: l.set i v) + 1 = List.countP _ (x :: l)
      rw [List.countP_cons, List.countP_cons]
      unfold cz at this
      omega
theorem rest_set {G : List (List Nat)} {l : List Nat} {u : Nat} (hl : l.length = G.length) (hu : u < G.length) (hk : gt l u < degG G u) : rest G (l.set u (gt l u + 1)) + 1 = rest G l := by
  induction G generalizing l u with
  | nil => simp at hu
  | cons g G ih =>
    cases l with
    | nil => simp at hl
    | cons k l =>
      cases u with
      | zero =>
        have hk' : k < g.length := hk
        show (g.length - (k + 1)) + rest G l + 1 = (g.length - k) + rest G l
        omega
      | succ u =>
        have := ih (l := l) (u := u) (by simpa using hl) (by simpa using hu) hk
        show (g.length - k) + rest G (l.set u (gt l u + 1)) + 1 = (g.length - k) + rest G l
        omega
theorem rest_le (G : List (List Nat)) : ∀ l : List Nat, rest G l ≤ (G.map List.length).sum := by
  induction G with
  | nil => intro l; simp [rest]
  | cons g G ih =>
    intro l
    cases l with
    | nil => simp [rest]
    | cons k l =>
      have := ih l
      show (g.length - k) + rest G l ≤ ((g :: G).map List.length).sum
      rw [List.map_cons, List.sum_cons]
      omega
def ValidG (G : List (List Nat)) : Prop := ∀ u k v, nx G u k = some v → v < G.length
theorem nx_deg {G : List (List Nat)} {u k v : Nat} (h : nx G u k = some v) : k < degG G u := (List.getElem?_eq_some_iff.1 h).1
theorem nx_none {G : List (List Nat)} {u k : Nat} (h : nx G u k = none) : degG G u ≤ k := List.getElem?_eq_none_iff.1 h
theorem nx_lt {G : List (List Nat)} {u k v : Nat} (h : nx G u k = some v) : u < G.length := by
  apply Nat.lt_of_not_le
  intro hn
  have := nx_deg h
  unfold degG at this
  rw [List.getD_eq_getElem?_getD, List.getElem?_eq_none hn] at this
  simp at this
/-- What every step keeps. -/
structure Lt (G : List (List Nat)) (s : SS) : Prop where
  lp : s.place.length = G.length
  ll : s.lowest.length = G.length
  lk : s.looked.length = G.length
  ln : s.number.length = G.length
  srt : s.opn.Pairwise (fun x y => gt s.place x < gt s.place y)
  opo : ∀ x ∈ s.opn, gt s.place x ≠ 0 ∧ gt s.number x = 0
  opf : ∀ x, gt s.place x ≠ 0 → gt s.number x = 0 → x ∈ s.opn
  sub : s.path.Sublist s.opn
  deg : ∀ x, gt s.looked x ≤ degG G x
  chain : ∀ A u v B, s.path = A ++ u :: v :: B → nx G u (gt s.looked u) = some v
  bnd : ∀ x, gt s.place x ≤ s.found
  tot : s.found + cz s.place = G.length
  nbp : ∀ x, gt s.number x ≠ 0 → gt s.place x ≠ 0
  lst : s.last + s.opn.length ≤ s.found
  nbl : ∀ x, gt s.number x ≤ s.last
  lkz : ∀ x, gt s.place x = 0 → gt s.looked x = 0
section
variable {G : List (List Nat)} {s : SS}
theorem Lt.lt (h : Lt G s) {x : Nat} (hx : x ∈ s.opn) : x < G.length := h.lp ▸ gt_lt (h.opo x hx).1
theorem Lt.nodup (h : Lt G s) : s.opn.Nodup := h.srt.imp (fun h e => by subst e; exact absurd h (Nat.lt_irrefl _))
theorem Lt.pnodup (h : Lt G s) : s.path.Nodup := h.nodup.sublist h.sub
theorem Lt.pin (h : Lt G s) {x : Nat} (hx : x ∈ s.path) : x ∈ s.opn := h.sub.subset hx
theorem Lt.fnd (h : Lt G s) : s.found ≤ G.length := by have := h.tot; omega
theorem endS_app {s : SS} {A : List Nat} {u : Nat} (h : s.path = A ++ [u]) : endS s = u := by unfold endS; rw [h]; simp
theorem path_cases (l : List Nat) : l = [] ∨ ∃ A u, l = A ++ [u] := by
  rcases List.eq_nil_or_concat l with h | ⟨A, u, h⟩
  · exact .inl h
  · exact .inr ⟨A, u, by simpa using h⟩
theorem s0_lt (G : List (List Nat)) : Lt G (s0S G.length) := by
  have hz : ∀ x, gt (zeros G.length) x = 0 := fun x => by
    unfold gt zeros
    rw [List.getD_eq_getElem?_getD, List.getElem?_replicate]
    split <;> rfl
  have hc : cz (zeros G.length) = G.length := by unfold cz zeros; rw [List.countP_replicate]; simp
  exact ⟨List.length_replicate, List.length_replicate, List.length_replicate, List.length_replicate, List.Pairwise.nil, fun x hx => absurd hx List.not_mem_nil, fun x hx => absurd (hz x) hx, List.nil_sublist _,
    fun x => by show gt (zeros _) x ≤ _; rw [hz]; exact Nat.zero_le _, fun A u v B e => by have := congrArg List.length e; simp [s0S] at this, fun x => by show gt (zeros _) x ≤ _; rw [hz]; exact Nat.zero_le _, by show 0 + cz (zeros _) = _; rw [hc]; omega, fun x hx => absurd (hz x) hx, Nat.le_refl _, fun x => by show gt (zeros _) x ≤ _; rw [hz]; exact Nat.zero_le _, fun x _ => hz x⟩
theorem chain_app {A B C : List Nat} {u v w : Nat} (h : A ++ [w] = B ++ u :: v :: C) : (C = [] ∧ v = w ∧ A = B ++ [u]) ∨ ∃ D, C = D ++ [w] ∧ A = B ++ u :: v :: D := by
  rcases path_cases C with rfl | ⟨D, z, rfl⟩
  · left
    have h' : A ++ [w] = (B ++ [u]) ++ [v] := by simpa using h
    have := List.append_inj' h' rfl
    exact ⟨rfl, by simpa using this.2.symm, this.1⟩
  · right
    have h' : A ++ [w] = (B ++ u :: v :: D) ++ [z] := by simpa using h
    have := List.append_inj' h' rfl
    have e : w = z := by simpa using this.2
    subst e
    exact ⟨D, rfl, this.1⟩
/-- A node is entered: the first, or the end of the edge that the path's end looks at. -/
theorem enter_lt (h : Lt G s) {v : Nat} (hv : v < G.length) (h0 : gt s.place v = 0) (hp : s.path = [] ∨ nx G (endS s) (gt s.looked (endS s)) = some v) : Lt G (enterS s v) := by
  have hvp : v < s.place.length := by rw [h.lp]; exact hv
  have hpl : ∀ x, gt (enterS s v).place x = if x = v then s.found + 1 else gt s.place x := fun x => gt_set hvp _ _
  have hvn : v ∉ s.opn := fun hm => (h.opo v hm).1 h0
  have hvb : gt s.number v = 0 := by
    apply Classical.byContradiction
    intro hn
    exact h.nbp v hn h0
  refine ⟨?_, ?_, h.lk, h.ln, ?_, ?_, ?_, ?_, h.deg, ?_, ?_, ?_, ?_, ?_, h.nbl, ?_⟩
  · show (s.place.set v _).length = _; rw [List.length_set]; exact h.lp
  · show (s.lowest.set v _).length = _; rw [List.length_set]; exact h.ll
  · show (s.opn ++ [v]).Pairwise _
    rw [List.pairwise_append]
    refine ⟨h.srt.imp_of_mem (fun {a b} ha hb hab => ?_), by simp, fun a ha b hb => ?_⟩
    · rw [hpl, hpl, if_neg (fun e : a = v => hvn (e ▸ ha)), if_neg (fun e : b = v => hvn (e ▸ hb))]; exact hab
    · have : b = v := by simpa using hb
      subst this
      rw [hpl, hpl, if_neg (fun e : a = b => hvn (e ▸ ha)), if_pos rfl]
      have := h.bnd a
      omega
  · intro x hx
    have hx' : x ∈ s.opn ++ [v] := hx
    rw [hpl]
    show _ ∧ gt s.number x = 0
    rcases List.mem_append.1 hx' with hx' | hx'
    · rw [if_neg (fun e : x = v => hvn (e ▸ hx'))]; exact h.opo x hx'
    · have : x = v := by simpa using hx'
      rw [if_pos this, this]; exact ⟨by omega, hvb⟩
  · intro x hx hn
    show x ∈ s.opn ++ [v]
    rw [hpl] at hx
    by_cases e : x = v
    · rw [e]; simp
    · rw [if_neg e] at hx
      exact List.mem_append_left _ (h.opf x hx hn)
  · exact List.Sublist.append h.sub (List.Sublist.refl _)
  · intro A u w B e
    have e' : s.path ++ [v] = A ++ u :: w :: B := e
    rcases chain_app e' with ⟨-, e1, e2⟩ | ⟨D, -, e2⟩
    · rcases hp with hp | hp
      · rw [hp] at e2; simp at e2
      · rw [endS_app e2] at hp
        rw [e1]; exact hp
    · exact h.chain A u w D e2
  · intro x
    rw [hpl]
    show _ ≤ s.found + 1
    split
    · exact Nat.le_refl _
    · have := h.bnd x; omega
  · show s.found + 1 + cz (s.place.set v (s.found + 1)) = _
    have := cz_set hvp h0 (v := s.found + 1) (by omega)
    have := h.tot
    omega
  · intro x hx
    rw [hpl]
    have := h.nbp x hx
    split
    · omega
    · exact this
  · show s.last + (s.opn ++ [v]).length ≤ s.found + 1
    have := h.lst
    rw [List.length_append, List.length_singleton]
    omega
  · intro x hx
    rw [hpl] at hx
    by_cases e : x = v
    · rw [if_pos e] at hx; omega
    · rw [if_neg e] at hx; exact h.lkz x hx
/-- An edge is looked at. -/
theorem look_lt (h : Lt G s) {A : List Nat} {u v : Nat} (hp : s.path = A ++ [u]) (he : nx G u (gt s.looked u) = some v) : Lt G (lookS s u v) := by
  have hu : u < s.looked.length := by rw [h.lk]; exact nx_lt he
  have hlk : ∀ x, gt (lookS s u v).looked x = if x = u then gt s.looked u + 1 else gt s.looked x := fun x => gt_set hu _ _
  refine ⟨h.lp, ?_, ?_, h.ln, h.srt, h.opo, h.opf, h.sub, ?_, ?_, h.bnd, h.tot, h.nbp, h.lst, h.nbl, ?_⟩
  · show (if gt s.number v = 0 then s.lowest.set u _ else s.lowest).length = _
    split
    · rw [List.length_set]; exact h.ll
    · exact h.ll
  · show (s.looked.set u _).length = _; rw [List.length_set]; exact h.lk
  · intro x
    rw [hlk]
    split
    · rename_i e; rw [e]; exact nx_deg he
    · exact h.deg x
  · intro B a b C e
    have e' : s.path = B ++ a :: b :: C := e
    rw [hlk]
    have hne : a ≠ u := fun ea => by
      have hnd := h.pnodup
      rw [hp] at e'
      rcases chain_app e' with ⟨-, e1, e2⟩ | ⟨D, -, e2⟩
      · rw [hp, e2, List.append_assoc] at hnd
        rw [List.nodup_append] at hnd
        rw [ea] at hnd
        simp at hnd
      · rw [hp, e2, List.append_assoc, ea] at hnd
        rw [List.nodup_append] at hnd
        have := hnd.2.1
        simp at this
    rw [if_neg hne]
    exact h.chain B a b C e'
  · intro x hx
    have hx' : gt s.place x = 0 := hx
    rw [hlk]
    have hne : x ≠ u := fun e => (h.opo u (h.pin (by rw [hp]; simp))).1 (e ▸ hx')
    rw [if_neg hne]
    exact h.lkz x hx'
theorem popR_cut (u n : Nat) (hn : n ≠ 0) : ∀ (B A : List Nat) (nb : List Nat), (∀ x ∈ B, x ≠ u) → gt nb u = 0 → u < nb.length → (∀ x ∈ B, x < nb.length) →
    (popR u n (B ++ u :: A) nb).2 = A ∧ (popR u n (B ++ u :: A) nb).1.length = nb.length ∧ ∀ x, gt (popR u n (B ++ u :: A) nb).1 x = if x ∈ B ∨ x = u then n else gt nb x
  | [], A, nb, hB, h0, hu, hl => by
    have h1 : popR u n (u :: A) nb = popR u n A (nb.set u n) := by
      conv => lhs; unfold popR
      rw [if_pos h0]
    have h2 : gt (nb.set u n) u ≠ 0 := by rw [gt_set hu, if_pos rfl]; exact hn
    have h3 : popR u n A (nb.set u n) = (nb.set u n, A) := by
      cases A with
      | nil => rfl
      | cons a A => unfold popR; rw [if_neg h2]
    rw [List.nil_append, h1, h3]
    refine ⟨rfl, List.length_set, fun x => ?_⟩
    rw [gt_set hu]
    simp
  | b :: B, A, nb, hB, h0, hu, hl => by
    have h1 : popR u n (b :: B ++ u :: A) nb = popR u n (B ++ u :: A) (nb.set b n) := by
      conv => lhs; rw [List.cons_append]; unfold popR
      rw [if_pos h0]
    have hbl : b < nb.length := hl b (List.mem_cons_self ..)
    have hbu : b ≠ u := hB b (List.mem_cons_self ..)
    have ih := popR_cut u n hn B A (nb.set b n) (fun x hx => hB x (List.mem_cons_of_mem _ hx)) (by rw [gt_set hbl, if_neg (fun e => hbu e.symm)]; exact h0) (by rw [List.length_set]; exact hu) (fun x hx => by rw [List.length_set]; exact hl x (List.mem_cons_of_mem _ hx))
    rw [h1]
    refine ⟨ih.1, ih.2.1.trans List.length_set, fun x => ?_⟩
    rw [ih.2.2 x, gt_set hbl]
    by_cases e1 : x ∈ B ∨ x = u
    · rw [if_pos e1, if_pos (e1.elim (fun h => .inl (List.mem_cons_of_mem _ h)) .inr)]
    · rw [if_neg e1]
      by_cases e2 : x = b
      · rw [if_pos e2, if_pos (.inl (by rw [e2]; exact List.mem_cons_self ..))]
      · rw [if_neg e2, if_neg (fun h => h.elim (fun h => (List.mem_cons.1 h).elim e2 (fun h => e1 (.inl h))) (fun h => e1 (.inr h)))]
/-- The open nodes around one of them. -/
theorem Lt.split (h : Lt G s) {u : Nat} (hu : u ∈ s.opn) : ∃ A B, s.opn = A ++ u :: B ∧ u ∉ A ∧ u ∉ B ∧ (∀ x ∈ A, gt s.place x < gt s.place u) ∧ (∀ x ∈ B, gt s.place u < gt s.place x) := by
  obtain ⟨A, B, e⟩ := List.append_of_mem hu
  have hs := h.srt
  rw [e, List.pairwise_append] at hs
  obtain ⟨-, h2, h3⟩ := hs
  have hA : ∀ x ∈ A, gt s.place x < gt s.place u := fun x hx => h3 x hx u (List.mem_cons_self ..)
  have hB : ∀ x ∈ B, gt s.place u < gt s.place x := fun x hx => List.rel_of_pairwise_cons h2 hx
  exact ⟨A, B, e, fun hx => absurd (hA u hx) (Nat.lt_irrefl _), fun hx => absurd (hB u hx) (Nat.lt_irrefl _), hA, hB⟩
theorem leave_close {u : Nat} (h : Lt G s) {A B : List Nat} (e : s.opn = A ++ u :: B) (hB : u ∉ B) (hlo : ¬ gt s.lowest u < gt s.place u) :
    (leaveS s u).opn = A ∧ (leaveS s u).number.length = s.number.length ∧ (leaveS s u).last = s.last + 1 ∧ ∀ x, gt (leaveS s u).number x = if x ∈ B ∨ x = u then s.last + 1 else gt s.number x := by
  have hu : u ∈ s.opn := by rw [e]; simp
  have hlen : ∀ x ∈ s.opn, x < s.number.length := fun x hx => by rw [h.ln]; exact h.lt hx
  have hp := popR_cut u (s.last + 1) (by omega) B.reverse A.reverse s.number (fun x hx e' => hB (e' ▸ List.mem_reverse.1 hx)) (h.opo u hu).2 (hlen u hu) (fun x hx => hlen x (by rw [e]; simp [List.mem_reverse.1 hx]))
  have hr : s.opn.reverse = B.reverse ++ u :: A.reverse := by rw [e]; simp
  unfold leaveS
  rw [if_neg hlo]
  simp only
  rw [hr]
  refine ⟨by rw [hp.1]; simp, hp.2.1, by first | rfl | trivial, fun x => ?_⟩
  rw [hp.2.2 x]
  simp
theorem leave_lt (h : Lt G s) {A : List Nat} {u : Nat} (hp : s.path = A ++ [u]) : Lt G (leaveS s u) := by
  have hu : u ∈ s.opn := h.pin (by rw [hp]; simp)
  obtain ⟨C, B, e, hC, hB, hCl, hBl⟩ := h.split hu
  have hpd : s.path.dropLast = A := by rw [hp]; simp
  have hch : ∀ A' u' v' B', A = A' ++ u' :: v' :: B' → nx G u' (gt s.looked u') = some v' := fun A' u' v' B' e' => h.chain A' u' v' (B' ++ [u]) (by rw [hp, e']; simp)
  by_cases hlo : gt s.lowest u < gt s.place u
  · have hl : leaveS s u = { s with path := A } := by unfold leaveS; rw [if_pos hlo, hpd]
    rw [hl]
    exact ⟨h.lp, h.ll, h.lk, h.ln, h.srt, h.opo, h.opf, (by have := h.sub; rw [hp] at this; exact (List.sublist_append_left A [u]).trans this), h.deg, hch, h.bnd, h.tot, h.nbp, h.lst, h.nbl, h.lkz⟩
  · obtain ⟨h1, h2, h3, h4⟩ := leave_close h e hB hlo
    have hpl : (leaveS s u).place = s.place := by unfold leaveS; rw [if_neg hlo]
    have hll : (leaveS s u).lowest = s.lowest := by unfold leaveS; rw [if_neg hlo]
    have hlk : (leaveS s u).looked = s.looked := by unfold leaveS; rw [if_neg hlo]
    have hpa : (leaveS s u).path = A := by unfold leaveS; rw [if_neg hlo]; exact hpd
    have hfo : (leaveS s u).found = s.found := by unfold leaveS; rw [if_neg hlo]
    have hCs : C.Sublist s.opn := by rw [e]; exact List.sublist_append_left _ _
    have hnd := h.nodup
    rw [e, List.nodup_append] at hnd
    have hAC : A.Sublist C := by
      have hs := h.sub
      rw [hp, e] at hs
      -- A ++ [u] is a sublist of C ++ u :: B; u occurs there once
      obtain ⟨l1, l2, e1, s1, s2⟩ := List.append_sublist_iff.1 hs
      have hul : u ∈ l2 := s2.subset (by simp)
      rcases List.append_eq_append_iff.1 e1 with ⟨a, ea, eb⟩ | ⟨a, ea, eb⟩
      · cases a with
        | nil => rw [List.append_nil] at ea; exact ea ▸ s1
        | cons z a =>
          rw [List.cons_append] at eb
          have := (List.cons.inj eb).2
          exact absurd (this ▸ List.mem_append_right a hul) hB
      · rw [ea]; exact s1.trans (List.sublist_append_left _ _)
    refine ⟨hpl ▸ h.lp, hll ▸ h.ll, hlk ▸ h.lk, h2.trans h.ln, ?_, ?_, ?_, ?_, ?_, ?_, ?_, ?_, ?_, ?_, ?_, ?_⟩
    · rw [h1, hpl]; exact h.srt.sublist hCs
    · intro x hx
      rw [h1] at hx
      rw [hpl, h4]
      have := h.opo x (hCs.subset hx)
      rw [if_neg (fun hc => hc.elim (fun hb => hnd.2.2 x hx x (List.mem_cons_of_mem _ hb) rfl) (fun hb => hC (hb ▸ hx)))]
      exact this
    · intro x hx hn
      rw [hpl] at hx
      rw [h4] at hn
      by_cases hc : x ∈ B ∨ x = u
      · rw [if_pos hc] at hn; omega
      · rw [if_neg hc] at hn
        have := h.opf x hx hn
        rw [e] at this
        rw [h1]
        rcases List.mem_append.1 this with hm | hm
        · exact hm
        · exact absurd ((List.mem_cons.1 hm).elim .inr .inl) hc
    · rw [hpa, h1]; exact hAC
    · intro x; rw [hlk]; exact h.deg x
    · intro A' u' v' B' e'
      rw [hpa] at e'
      rw [hlk]
      exact hch A' u' v' B' e'
    · intro x; rw [hpl, hfo]; exact h.bnd x
    · rw [hpl, hfo]; exact h.tot
    · intro x hx
      rw [h4] at hx
      rw [hpl]
      by_cases hc : x ∈ B ∨ x = u
      · exact (h.opo x (by rw [e]; rcases hc with hc | hc <;> simp [hc])).1
      · rw [if_neg hc] at hx; exact h.nbp x hx
    · rw [h3, hfo, h1]
      have := h.lst
      rw [e, List.length_append, List.length_cons] at this
      omega
    · intro x
      rw [h4, h3]
      have := h.nbl x
      split <;> omega
    · intro x hx
      rw [hpl] at hx
      rw [hlk]
      exact h.lkz x hx
end
end Go.Proofs.Ytijohaeiiidcpaa
