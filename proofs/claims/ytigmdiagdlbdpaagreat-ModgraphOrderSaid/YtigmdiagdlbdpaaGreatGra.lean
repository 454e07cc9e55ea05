/-
  PLAIN. The search for components as a machine on lists (no program): what a step keeps; its measure.
  PLAIN. The search for components: what is true of the numbers (no edge to a greater one; equal ones reach each other).
  PLAIN. The search for components: a node is left; the whole search.
  PLAIN. The search for components, whole: its measure; the numbers that it gives.
-/
import Derived.WalkKit
namespace Go.Proofs.YtigmdiagdlbdpaaGreat
/-- The i-th number of a list, or 0. -/
def gt (l : List Nat) (i : Nat) : Nat := l.getD i 0
theorem gt_set {l : List Nat} {i : Nat} (h : i < l.length) (v j : Nat) : gt (l.set i v) j = if j = i then v else gt l j := by
  unfold gt
  rw [List.getD_eq_getElem?_getD, List.getD_eq_getElem?_getD, List.getElem?_set]
  by_cases e : j = i
  · subst e; simp [h]
  · rw [if_neg (fun h => e h.symm), if_neg e]
theorem gt_ge {l : List Nat} {i : Nat} (h : l.length ≤ i) : gt l i = 0 := by unfold gt; rw [List.getD_eq_getElem?_getD, List.getElem?_eq_none h]; rfl
theorem gt_lt {l : List Nat} {i : Nat} (h : gt l i ≠ 0) : i < l.length := Nat.lt_of_not_le (fun h' => h (gt_ge h'))
theorem gt_at {l : List Nat} {i : Nat} (h : i < l.length) : gt l i = l[i] := by unfold gt; rw [List.getD_eq_getElem?_getD, List.getElem?_eq_getElem h]; rfl
structure SS where
  place : List Nat
  lowest : List Nat
  looked : List Nat
  number : List Nat
  path : List Nat
  opn : List Nat
  found : Nat
  last : Nat
def degG (G : List (List Nat)) (u : Nat) : Nat := (G.getD u []).length
def nx (G : List (List Nat)) (u k : Nat) : Option Nat := (G.getD u [])[k]?
def enterS (s : SS) (v : Nat) : SS := { s with place := s.place.set v (s.found + 1), lowest := s.lowest.set v (s.found + 1), path := s.path ++ [v], opn := s.opn ++ [v], found := s.found + 1 }
def lookS (s : SS) (u v : Nat) : SS := { s with lowest := if gt s.number v = 0 then s.lowest.set u (min (gt s.lowest u) (gt s.lowest v)) else s.lowest, looked := s.looked.set u (gt s.looked u + 1) }
/-- The open nodes, the last first, are closed until u is. -/
def popR (u n : Nat) : List Nat → List Nat → List Nat × List Nat
  | [], nb => (nb, [])
  | x :: r, nb => if gt nb u = 0 then popR u n r (nb.set x n) else (nb, x :: r)
def leaveS (s : SS) (u : Nat) : SS :=
  if gt s.lowest u < gt s.place u then { s with path := s.path.dropLast } else
  { s with path := s.path.dropLast, last := s.last + 1, number := (popR u (s.last + 1) s.opn.reverse s.number).1, opn := (popR u (s.last + 1) s.opn.reverse s.number).2.reverse }
def endS (s : SS) : Nat := s.path.getLastD 0
def stepS (G : List (List Nat)) (s : SS) : SS := match nx G (endS s) (gt s.looked (endS s)) with
  | some v => if gt s.place v = 0 then enterS s v else lookS s (endS s) v
  | none => leaveS s (endS s)
def runS (G : List (List Nat)) : Nat → SS → SS
  | 0, s => s
  | f + 1, s => if s.path = [] then s else runS G f (stepS G s)
def zeros (n : Nat) : List Nat := List.replicate n 0
def s0S (n : Nat) : SS := ⟨zeros n, zeros n, zeros n, zeros n, [], [], 0, 0⟩
/-- How much is to be done at most. -/
def cz (l : List Nat) : Nat := l.countP (· == 0)
def rest : List (List Nat) → List Nat → Nat
  | g :: G, k :: l => (g.length - k) + rest G l
  | _, _ => 0
def mu (G : List (List Nat)) (s : SS) : Nat := 2 * cz s.place + rest G s.looked + s.path.length
def fuelG (G : List (List Nat)) : Nat := 2 * G.length + (G.map List.length).sum + 1
def startS (G : List (List Nat)) (s : SS) (v : Nat) : SS := runS G (fuelG G) (if gt s.place v = 0 then enterS s v else s)
def numbersS (G : List (List Nat)) (starts : List Nat) : List Nat := (starts.foldl (startS G) (s0S G.length)).number
theorem ex_num : numbersS [[1], [0], [0]] [0, 1, 2] = [1, 1, 2] := by decide
theorem cz_set {l : List Nat} {i v : Nat} (h : i < l.length) (h0 : gt l i = 0) (hv : v ≠ 0) : cz (l.set i v) + 1 = cz l := by
  induction l generalizing i with
  | nil => simp at h
  | cons x l ih =>
    cases i with
    | zero =>
      have hx : x = 0 := h0
      subst hx
      show List.countP _ (v :: l) + 1 = List.countP _ (0 :: l)
      have h1 : ((v == 0) = false) := by simpa using hv
      rw [List.countP_cons_of_neg (by simp [h1]), List.countP_cons_of_pos (by rfl)]
    | succ i =>
      have := ih (i := i) (by simpa using h) h0
      show List.countP _ (x :: l.set i v) + 1 = List.countP _ (x :: l)
      rw [List.countP_cons, List.countP_cons]
      unfold cz at this
      omega
theorem rest_set {G : List (List Nat)} {l : List Nat} {u : Nat} (hl : l.length = G.length) (hu : u < G.length) (hk : gt l u < degG G u) : rest G (l.set u (gt l u + 1)) + 1 = rest G l := by
  induction G generalizing l u with
  | nil => simp at hu
  | cons g G ih =>
    cases l with
    | nil => simp at hl
    | cons k l =>
      cases u with
      | zero =>
        have hk' : k < g.length := hk
        show (g.length - (k + 1)) + rest G l + 1 = (g.length - k) + rest G l
        omega
      | succ u =>
        have := ih (l := l) (u := u) (by simpa using hl) (by simpa using hu) hk
        show (g.length - k) + rest G (l.set u (gt l u + 1)) + 1 = (g.length - k) + rest G l
        omega
theorem rest_le (G : List (List Nat)) : ∀ l : List Nat, rest G l ≤ (G.map List.length).sum := by
  induction G with
  | nil => intro l; simp [rest]
  | cons g G ih =>
    intro l
    cases l with
    | nil => simp [rest]
    | cons k l =>
      have := ih l
      show (g.length - k) + rest G l ≤ ((g :: G).map List.length).sum
      rw [List.map_cons, List.sum_cons]
      omega
def ValidG (G : List (List Nat)) : Prop := ∀ u k v, nx G u k = some v → v < G.length
theorem nx_deg {G : List (List Nat)} {u k v : Nat} (h : nx G u k = some v) : k < degG G u := (List.getElem?_eq_some_iff.1 h).1
theorem nx_none {G : List (List Nat)} {u k : Nat} (h : nx G u k = none) : degG G u ≤ k := List.getElem?_eq_none_iff.1 h
theorem nx_lt {G : List (List Nat)} {u k v : Nat} (h : nx G u k = some v) : u < G.length := by
  apply Nat.lt_of_not_le
  intro hn
  have := nx_deg h
  unfold degG at this
  rw [List.getD_eq_getElem?_getD, List.getElem?_eq_none hn] at this
  simp at this
/-- What every step keeps. -/
structure Lt (G : List (List Nat)) (s : SS) : Prop where
  lp : s.place.length = G.length
  ll : s.lowest.length = G.length
  lk : s.looked.length = G.length
  ln : s.number.length = G.length
  srt : s.opn.Pairwise (fun x y => gt s.place x < gt s.place y)
  opo : ∀ x ∈ s.opn, gt s.place x ≠ 0 ∧ gt s.number x = 0
  opf : ∀ x, gt s.place x ≠ 0 → gt s.number x = 0 → x ∈ s.opn
  sub : s.path.Sublist s.opn
  deg : ∀ x, gt s.looked x ≤ degG G x
  chain : ∀ A u v B, s.path = A ++ u :: v :: B → nx G u (gt s.looked u) = some v
  bnd : ∀ x, gt s.place x ≤ s.found
  tot : s.found + cz s.place = G.length
  nbp : ∀ x, gt s.number x ≠ 0 → gt s.place x ≠ 0
  lst : s.last + s.opn.length ≤ s.found
  nbl : ∀ x, gt s.number x ≤ s.last
  lkz : ∀ x, gt s.place x = 0 → gt s.looked x = 0
section
variable {G : List (List Nat)} {s : SS}
theorem Lt.lt (h : Lt G s) {x : Nat} (hx : x ∈ s.opn) : x < G.length := h.lp ▸ gt_lt (h.opo x hx).1
theorem Lt.nodup (h : Lt G s) : s.opn.Nodup := h.srt.imp (fun h e => by subst e; exact absurd h (Nat.lt_irrefl _))
theorem Lt.pnodup (h : Lt G s) : s.path.Nodup := h.nodup.sublist h.sub
theorem Lt.pin (h : Lt G s) {x : Nat} (hx : x ∈ s.path) : x ∈ s.opn := h.sub.subset hx
theorem Lt.fnd (h : Lt G s) : s.found ≤ G.length := by have := h.tot; omega
theorem endS_app {s : SS} {A : List Nat} {u : Nat} (h : s.path = A ++ [u]) : endS s = u := by unfold endS; rw [h]; simp
theorem path_cases (l : List Nat) : l = [] ∨ ∃ A u, l = A ++ [u] := by
  rcases List.eq_nil_or_concat l with h | ⟨A, u, h⟩
  · exact .inl h
  · exact .inr ⟨A, u, by simpa using h⟩
theorem s0_lt (G : List (List Nat)) : Lt G (s0S G.length) := by
  have hz : ∀ x, gt (zeros G.length) x = 0 := fun x => by
    unfold gt zeros
    rw [List.getD_eq_getElem?_getD, List.getElem?_replicate]
    split <;> rfl
  have hc : cz (zeros G.length) = G.length := by unfold cz zeros; rw [List.countP_replicate]; simp
  exact ⟨List.length_replicate, List.length_replicate, List.length_replicate, List.length_replicate, List.Pairwise.nil, fun x hx => absurd hx List.not_mem_nil, fun x hx => absurd (hz x) hx, List.nil_sublist _,
    fun x => by show gt (zeros _) x ≤ _; rw [hz]; exact Nat.zero_le _, fun A u v B e => by have := congrArg List.length e; simp [s0S] at this, fun x => by show gt (zeros _) x ≤ _; rw [hz]; exact Nat.zero_le _, by show 0 + cz (zeros _) = _; rw [hc]; omega, fun x hx => absurd (hz x) hx, Nat.le_refl _, fun x => by show gt (zeros _) x ≤ _; rw [hz]; exact Nat.zero_le _, fun x _ => hz x⟩
theorem chain_app {A B C : List Nat} {u v w : Nat} (h : A ++ [w] = B ++ u :: v :: C) : (C = [] ∧ v = w ∧ A = B ++ [u]) ∨ ∃ D, C = D ++ [w] ∧ A = B ++ u :: v :: D := by
  rcases path_cases C with rfl | ⟨D, z, rfl⟩
  · left
    have h' : A ++ [w] = (B ++ [u]) ++ [v] := by simpa using h
    have := List.append_inj' h' rfl
    exact ⟨rfl, by simpa using this.2.symm, this.1⟩
  · right
    have h' : A ++ [w] = (B ++ u :: v :: D) ++ [z] := by simpa using h
    have := List.append_inj' h' rfl
    have e : w = z := by simpa using this.2
    subst e
    exact ⟨D, rfl, this.1⟩
/-- A node is entered: the first, or the end of the edge that the path's end looks at. -/
theorem enter_lt (h : Lt G s) {v : Nat} (hv : v < G.length) (h0 : gt s.place v = 0) (hp : s.path = [] ∨ nx G (endS s) (gt s.looked (endS s)) = some v) : Lt G (enterS s v) := by
  have hvp : v < s.place.length := by rw [h.lp]; exact hv
  have hpl : ∀ x, gt (enterS s v).place x = if x = v then s.found + 1 else gt s.place x := fun x => gt_set hvp _ _
  have hvn : v ∉ s.opn := fun hm => (h.opo v hm).1 h0
  have hvb : gt s.number v = 0 := by
    apply Classical.byContradiction
    intro hn
    exact h.nbp v hn h0
  refine ⟨?_, ?_, h.lk, h.ln, ?_, ?_, ?_, ?_, h.deg, ?_, ?_, ?_, ?_, ?_, h.nbl, ?_⟩
  · show (s.place.set v _).length = _; rw [List.length_set]; exact h.lp
  · show (s.lowest.set v _).length = _; rw [List.length_set]; exact h.ll
  · show (s.opn ++ [v]).Pairwise _
    rw [List.pairwise_append]
    refine ⟨h.srt.imp_of_mem (fun {a b} ha hb hab => ?_), by simp, fun a ha b hb => ?_⟩
    · rw [hpl, hpl, if_neg (fun e : a = v => hvn (e ▸ ha)), if_neg (fun e : b = v => hvn (e ▸ hb))]; exact hab
    · have : b = v := by simpa using hb
      subst this
      rw [hpl, hpl, if_neg (fun e : a = b => hvn (e ▸ ha)), if_pos rfl]
      have := h.bnd a
      omega
  · intro x hx
    have hx' : x ∈ s.opn ++ [v] := hx
    rw [hpl]
    show _ ∧ gt s.number x = 0
    rcases List.mem_append.1 hx' with hx' | hx'
    · rw [if_neg (fun e : x = v => hvn (e ▸ hx'))]; exact h.opo x hx'
    · have : x = v := by simpa using hx'
      rw [if_pos this, this]; exact ⟨by omega, hvb⟩
  · intro x hx hn
    show x ∈ s.opn ++ [v]
    rw [hpl] at hx
    by_cases e : x = v
    · rw [e]; simp
    · rw [if_neg e] at hx
      exact List.mem_append_left _ (h.opf x hx hn)
  · exact List.Sublist.append h.sub (List.Sublist.refl _)
  · intro A u w B e
    have e' : s.path ++ [v] = A ++ u :: w :: B := e
    rcases chain_app e' with ⟨-, e1, e2⟩ | ⟨D, -, e2⟩
    · rcases hp with hp | hp
      · rw [hp] at e2; simp at e2
      · rw [endS_app e2] at hp
        rw [e1]; exact hp
    · exact h.chain A u w D e2
  · intro x
    rw [hpl]
    show _ ≤ s.found + 1
    split
    · exact Nat.le_refl _
    · have := h.bnd x; omega
  · show s.found + 1 + cz (s.place.set v (s.found + 1)) = _
    have := cz_set hvp h0 (v := s.found + 1) (by omega)
    have := h.tot
    omega
  · intro x hx
    rw [hpl]
    have := h.nbp x hx
    split
    · omega
    · exact this
  · show s.last + (s.opn ++ [v]).length ≤ s.found + 1
    have := h.lst
    rw [List.length_append, List.length_singleton]
    omega
  · intro x hx
    rw [hpl] at hx
    by_cases e : x = v
    · rw [if_pos e] at hx; omega
    · rw [if_neg e] at hx; exact h.lkz x hx
/-- An edge is looked at. -/
theorem look_lt (h : Lt G s) {A : List Nat} {u v : Nat} (hp : s.path = A ++ [u]) (he : nx G u (gt s.looked u) = some v) : Lt G (lookS s u v) := by
  have hu : u < s.looked.length := by rw [h.lk]; exact nx_lt he
  have hlk : ∀ x, gt (lookS s u v).looked x = if x = u then gt s.looked u + 1 else gt s.looked x := fun x => gt_set hu _ _
  refine ⟨h.lp, ?_, ?_, h.ln, h.srt, h.opo, h.opf, h.sub, ?_, ?_, h.bnd, h.tot, h.nbp, h.lst, h.nbl, ?_⟩
  · show (if gt s.number v = 0 then s.lowest.set u _ else s.lowest).length = _
    split
    · rw [List.length_set]; exact h.ll
    · exact h.ll
  · show (s.looked.set u _).length = _; rw [List.length_set]; exact h.lk
  · intro x
    rw [hlk]
    split
    · rename_i e; rw [e]; exact nx_deg he
    · exact h.deg x
  · intro B a b C e
    have e' : s.path = B ++ a :: b :: C := e
    rw [hlk]
    have hne : a ≠ u := fun ea => by
      have hnd := h.pnodup
      rw [hp] at e'
      rcases chain_app e' with ⟨-, e1, e2⟩ | ⟨D, -, e2⟩
      · rw [hp, e2, List.append_assoc] at hnd
        rw [List.nodup_append] at hnd
        rw [ea] at hnd
        simp at hnd
      · rw [hp, e2, List.append_assoc, ea] at hnd
        rw [List.nodup_append] at hnd
        have := hnd.2.1
        simp at this
    rw [if_neg hne]
    exact h.chain B a b C e'
  · intro x hx
    have hx' : gt s.place x = 0 := hx
    rw [hlk]
    have hne : x ≠ u := fun e => (h.opo u (h.pin (by rw [hp]; simp))).1 (e ▸ hx')
    rw [if_neg hne]
    exact h.lkz x hx'
theorem popR_cut (u n : Nat) (hn : n ≠ 0) : ∀ (B A : List Nat) (nb : List Nat), (∀ x ∈ B, x ≠ u) → gt nb u = 0 → u < nb.length → (∀ x ∈ B, x < nb.length) →
    (popR u n (B ++ u :: A) nb).2 = A ∧ (popR u n (B ++ u :: A) nb).1.length = nb.length ∧ ∀ x, gt (popR u n (B ++ u :: A) nb).1 x = if x ∈ B ∨ x = u then n else gt nb x
  | [], A, nb, hB, h0, hu, hl => by
    have h1 : popR u n (u :: A) nb = popR u n A (nb.set u n) := by
      conv => lhs; unfold popR
      rw [if_pos h0]
    have h2 : gt (nb.set u n) u ≠ 0 := by rw [gt_set hu, if_pos rfl]; exact hn
    have h3 : popR u n A (nb.set u n) = (nb.set u n, A) := by
      cases A with
      | nil => rfl
      | cons a A => unfold popR; rw [if_neg h2]
    rw [List.nil_append, h1, h3]
    refine ⟨rfl, List.length_set, fun x => ?_⟩
    rw [gt_set hu]
    simp
  | b :: B, A, nb, hB, h0, hu, hl => by
    have h1 : popR u n (b :: B ++ u :: A) nb = popR u n (B ++ u :: A) (nb.set b n) := by
      conv => lhs; rw [List.cons_append]; unfold popR
      rw [if_pos h0]
    have hbl : b < nb.length := hl b (List.mem_cons_self ..)
    have hbu : b ≠ u := hB b (List.mem_cons_self ..)
    have ih := popR_cut u n hn B A (nb.set b n) (fun x hx => hB x (List.mem_cons_of_mem _ hx)) (by rw [gt_set hbl, if_neg (fun e => hbu e.symm)]; exact h0) (by rw [List.length_set]; exact hu) (fun x hx => by rw [List.length_set]; exact hl x (List.mem_cons_of_mem _ hx))
    rw [h1]
    refine ⟨ih.1, ih.2.1.trans List.length_set, fun x => ?_⟩
    rw [ih.2.2 x, gt_set hbl]
    by_cases e1 : x ∈ B ∨ x = u
    · rw [if_pos e1, if_pos (e1.elim (fun h => .inl (List.mem_cons_of_mem _ h)) .inr)]
    · rw [if_neg e1]
      by_cases e2 : x = b
      · rw [if_pos e2, if_pos (.inl (by rw [e2]; exact List.mem_cons_self ..))]
      · rw [if_neg e2, if_neg (fun h => h.elim (fun h => (List.mem_cons.1 h).elim e2 (fun h => e1 (.inl h))) (fun h => e1 (.inr h)))]
/-- The open nodes around one of them. -/
theorem Lt.split (h : Lt G s) {u : Nat} (hu : u ∈ s.opn) : ∃ A B, s.opn = A ++ u :: B ∧ u ∉ A ∧ u ∉ B ∧ (∀ x ∈ A, gt s.place x < gt s.place u) ∧ (∀ x ∈ B, gt s.place u < gt s.place x) := by
  obtain ⟨A, B, e⟩ := List.append_of_mem hu
  have hs := h.srt
  rw [e, List.pairwise_append] at hs
  obtain ⟨-, h2, h3⟩ := hs
  have hA : ∀ x ∈ A, gt s.place x < gt s.place u := fun x hx => h3 x hx u (List.mem_cons_self ..)
  have hB : ∀ x ∈ B, gt s.place u < gt s.place x := fun x hx => List.rel_of_pairwise_cons h2 hx
  exact ⟨A, B, e, fun hx => absurd (hA u hx) (Nat.lt_irrefl _), fun hx => absurd (hB u hx) (Nat.lt_irrefl _), hA, hB⟩
theorem leave_close {u : Nat} (h : Lt G s) {A B : List Nat} (e : s.opn = A ++ u :: B) (hB : u ∉ B) (hlo : ¬ gt s.lowest u < gt s.place u) :
    (leaveS s u).opn = A ∧ (leaveS s u).number.length = s.number.length ∧ (leaveS s u).last = s.last + 1 ∧ ∀ x, gt (leaveS s u).number x = if x ∈ B ∨ x = u then s.last + 1 else gt s.number x := by
  have hu : u ∈ s.opn := by rw [e]; simp
  have hlen : ∀ x ∈ s.opn, x < s.number.length := fun x hx => by rw [h.ln]; exact h.lt hx
  have hp := popR_cut u (s.last + 1) (by omega) B.reverse A.reverse s.number (fun x hx e' => hB (e' ▸ List.mem_reverse.1 hx)) (h.opo u hu).2 (hlen u hu) (fun x hx => hlen x (by rw [e]; simp [List.mem_reverse.1 hx]))
  have hr : s.opn.reverse = B.reverse ++ u :: A.reverse := by rw [e]; simp
  unfold leaveS
  rw [if_neg hlo]
  simp only
  rw [hr]
  refine ⟨by rw [hp.1]; simp, hp.2.1, by first | rfl | trivial, fun x => ?_⟩
  rw [hp.2.2 x]
  simp
theorem leave_lt (h : Lt G s) {A : List Nat} {u : Nat} (hp : s.path = A ++ [u]) : Lt G (leaveS s u) := by
  have hu : u ∈ s.opn := h.pin (by rw [hp]; simp)
  obtain ⟨C, B, e, hC, hB, hCl, hBl⟩ := h.split hu
  have hpd : s.path.dropLast = A := by rw [hp]; simp
  have hch : ∀ A' u' v' B', A = A' ++ u' :: v' :: B' → nx G u' (gt s.looked u') = some v' := fun A' u' v' B' e' => h.chain A' u' v' (B' ++ [u]) (by rw [hp, e']; simp)
  by_cases hlo : gt s.lowest u < gt s.place u
  · have hl : leaveS s u = { s with path := A } := by unfold leaveS; rw [if_pos hlo, hpd]
    rw [hl]
    exact ⟨h.lp, h.ll, h.lk, h.ln, h.srt, h.opo, h.opf, (by have := h.sub; rw [hp] at this; exact (List.sublist_append_left A [u]).trans this), h.deg, hch, h.bnd, h.tot, h.nbp, h.lst, h.nbl, h.lkz⟩
  · obtain ⟨h1, h2, h3, h4⟩ := leave_close h e hB hlo
    have hpl : (leaveS s u).place = s.place := by unfold leaveS; rw [if_neg hlo]
    have hll : (leaveS s u).lowest = s.lowest := by unfold leaveS; rw [if_neg hlo]
    have hlk : (leaveS s u).looked = s.looked := by unfold leaveS; rw [if_neg hlo]
    have hpa : (leaveS s u).path = A := by unfold leaveS; rw [if_neg hlo]; exact hpd
    have hfo : (leaveS s u).found = s.found := by unfold leaveS; rw [if_neg hlo]
    have hCs : C.Sublist s.opn := by rw [e]; exact List.sublist_append_left _ _
    have hnd := h.nodup
    rw [e, List.nodup_append] at hnd
    have hAC : A.Sublist C := by
      have hs := h.sub
      rw [hp, e] at hs
      -- A ++ [u] is a sublist of C ++ u :: B; u occurs there once
      obtain ⟨l1, l2, e1, s1, s2⟩ := List.append_sublist_iff.1 hs
      have hul : u ∈ l2 := s2.subset (by simp)
      rcases List.append_eq_append_iff.1 e1 with ⟨a, ea, eb⟩ | ⟨a, ea, eb⟩
      · cases a with
        | nil => rw [List.append_nil] at ea; exact ea ▸ s1
        | cons z a =>
          rw [List.cons_append] at eb
          have := (List.cons.inj eb).2
          exact absurd (this ▸ List.mem_append_right a hul) hB
      · rw [ea]; exact s1.trans (List.sublist_append_left _ _)
    refine ⟨hpl ▸ h.lp, hll ▸ h.ll, hlk ▸ h.lk, h2.trans h.ln, ?_, ?_, ?_, ?_, ?_, ?_, ?_, ?_, ?_, ?_, ?_, ?_⟩
    · rw [h1, hpl]; exact h.srt.sublist hCs
    · intro x hx
      rw [h1] at hx
      rw [hpl, h4]
      have := h.opo x (hCs.subset hx)
      rw [if_neg (fun hc => hc.elim (fun hb => hnd.2.2 x hx x (List.mem_cons_of_mem _ hb) rfl) (fun hb => hC (hb ▸ hx)))]
      exact this
    · intro x hx hn
      rw [hpl] at hx
      rw [h4] at hn
      by_cases hc : x ∈ B ∨ x = u
      · rw [if_pos hc] at hn; omega
      · rw [if_neg hc] at hn
        have := h.opf x hx hn
        rw [e] at this
        rw [h1]
        rcases List.mem_append.1 this with hm | hm
        · exact hm
        · exact absurd ((List.mem_cons.1 hm).elim .inr .inl) hc
    · rw [hpa, h1]; exact hAC
    · intro x; rw [hlk]; exact h.deg x
    · intro A' u' v' B' e'
      rw [hpa] at e'
      rw [hlk]
      exact hch A' u' v' B' e'
    · intro x; rw [hpl, hfo]; exact h.bnd x
    · rw [hpl, hfo]; exact h.tot
    · intro x hx
      rw [h4] at hx
      rw [hpl]
      by_cases hc : x ∈ B ∨ x = u
      · exact (h.opo x (by rw [e]; rcases hc with hc | hc <;> simp [hc])).1
      · rw [if_neg hc] at hx; exact h.nbp x hx
    · rw [h3, hfo, h1]
      have := h.lst
      rw [e, List.length_append, List.length_cons] at this
      omega
    · intro x
      rw [h4, h3]
      have := h.nbl x
      split <;> omega
    · intro x hx
      rw [hpl] at hx
      rw [hlk]
      exact h.lkz x hx
end
end Go.Proofs.YtigmdiagdlbdpaaGreat
namespace Go.Proofs.YtigmdiagdlbdpaaGreat
inductive Re (G : List (List Nat)) : Nat → Nat → Prop
  | refl (x : Nat) : Re G x x
  | step {x y z k : Nat} : Re G x y → nx G y k = some z → Re G x z
theorem Re.trans {G : List (List Nat)} {x y z : Nat} (h : Re G x y) (k : Re G y z) : Re G x z := by
  induction k with
  | refl => exact h
  | step _ e ih => exact ih.step e
theorem Re.one {G : List (List Nat)} {x y k : Nat} (e : nx G x k = some y) : Re G x y := (Re.refl x).step e
/-- A path node is the last one found before x. -/
def Own (s : SS) (q x : Nat) : Prop := gt s.place q < gt s.place x ∧ ∀ r ∈ s.path, gt s.place r < gt s.place x → gt s.place r ≤ gt s.place q
structure Fu (G : List (List Nat)) (s : SS) : Prop where
  lt : Lt G s
  off : ∀ x, gt s.place x ≠ 0 → x ∉ s.path → degG G x ≤ gt s.looked x
  lkf : ∀ x k y, k < gt s.looked x → nx G x k = some y → gt s.place y ≠ 0
  cls : ∀ x k y, gt s.number x ≠ 0 → nx G x k = some y → gt s.number y ≠ 0 ∧ gt s.number y ≤ gt s.number x
  onl : ∀ x ∈ s.path, ∀ k y, k < gt s.looked x → nx G x k = some y → gt s.number y = 0 → gt s.lowest x ≤ gt s.place y
  ofl : ∀ x ∈ s.opn, x ∉ s.path → ∀ q ∈ s.path, Own s q x → ∀ k y, nx G x k = some y → gt s.number y = 0 → gt s.lowest q ≤ gt s.place y
  low : ∀ x ∈ s.opn, gt s.lowest x ≤ gt s.place x ∧ ∃ z ∈ s.opn, gt s.lowest x = gt s.place z ∧ Re G x z
  lowo : ∀ x ∈ s.opn, x ∉ s.path → gt s.lowest x < gt s.place x
  pre : ∀ p ∈ s.path, ∀ x ∈ s.opn, gt s.place p ≤ gt s.place x → Re G p x
  same : ∀ x y, gt s.number x ≠ 0 → gt s.number x = gt s.number y → Re G x y
  own : ∀ x ∈ s.opn, ∃ p ∈ s.path, gt s.place p ≤ gt s.place x
section
variable {G : List (List Nat)} {s : SS}
theorem Lt.inj (h : Lt G s) {x y : Nat} (hx : x ∈ s.opn) (hy : y ∈ s.opn) (e : gt s.place x = gt s.place y) : x = y := by
  obtain ⟨A, B, e1, -, -, hA, hB⟩ := h.split hx
  rw [e1] at hy
  rcases List.mem_append.1 hy with hy | hy
  · have := hA y hy; omega
  · rcases List.mem_cons.1 hy with hy | hy
    · exact hy.symm
    · have := hB y hy; omega
/-- The path's end is the last found of it. -/
theorem Lt.endmax (h : Lt G s) {A : List Nat} {u : Nat} (hp : s.path = A ++ [u]) : ∀ p ∈ A, gt s.place p < gt s.place u := by
  have := h.srt.sublist h.sub
  rw [hp, List.pairwise_append] at this
  exact fun p hpa => this.2.2 p hpa u (by simp)
theorem zget (n x : Nat) : gt (zeros n) x = 0 := by
  unfold gt zeros
  rw [List.getD_eq_getElem?_getD, List.getElem?_replicate]
  split <;> rfl
theorem s0_fu (G : List (List Nat)) : Fu G (s0S G.length) :=
  ⟨s0_lt G, fun x hx => absurd (zget _ x) hx, fun x k y hk => by have h0 : gt (s0S G.length).looked x = 0 := zget _ x; omega, fun x k y hx => absurd (zget _ x) hx, fun x hx => absurd hx List.not_mem_nil, fun x hx => absurd hx List.not_mem_nil, fun x hx => absurd hx List.not_mem_nil, fun x hx => absurd hx List.not_mem_nil, fun x hx => absurd hx List.not_mem_nil, fun x y hx => absurd (zget _ x) hx, fun x hx => absurd hx List.not_mem_nil⟩
theorem enter_fu (h : Fu G s) {v : Nat} (hv : v < G.length) (h0 : gt s.place v = 0) (hp : s.path = [] ∨ nx G (endS s) (gt s.looked (endS s)) = some v) : Fu G (enterS s v) := by
  have hL := enter_lt h.lt hv h0 hp
  have hvp : v < s.place.length := by rw [h.lt.lp]; exact hv
  have hpl : ∀ x, gt (enterS s v).place x = if x = v then s.found + 1 else gt s.place x := fun x => gt_set hvp _ _
  have hll : ∀ x, gt (enterS s v).lowest x = if x = v then s.found + 1 else gt s.lowest x := fun x => gt_set (by rw [h.lt.ll]; exact hv) _ _
  have hvn : v ∉ s.opn := fun hm => (h.lt.opo v hm).1 h0
  have hvpa : v ∉ s.path := fun hm => hvn (h.lt.pin hm)
  have hvb : gt s.number v = 0 := Classical.byContradiction (fun hn => h.lt.nbp v hn h0)
  have hlkv : gt s.looked v = 0 ∨ ∃ k, gt s.looked v = k + 1 := by cases gt s.looked v <;> simp
  have hmo : ∀ x, x ∈ (enterS s v).opn ↔ x ∈ s.opn ∨ x = v := fun x => by show x ∈ s.opn ++ [v] ↔ _; simp
  have hmp : ∀ x, x ∈ (enterS s v).path ↔ x ∈ s.path ∨ x = v := fun x => by show x ∈ s.path ++ [v] ↔ _; simp
  have hpo : ∀ x ∈ s.opn, gt (enterS s v).place x = gt s.place x := fun x hx => by rw [hpl, if_neg (fun e : x = v => hvn (e ▸ hx))]
  have hlo : ∀ x ∈ s.opn, gt (enterS s v).lowest x = gt s.lowest x := fun x hx => by rw [hll, if_neg (fun e : x = v => hvn (e ▸ hx))]
  have hpge : ∀ x, gt s.place x ≤ gt (enterS s v).place x := fun x => by rw [hpl]; have := h.lt.bnd x; split <;> omega
  refine ⟨hL, ?_, ?_, h.cls, ?_, ?_, ?_, ?_, ?_, h.same, ?_⟩
  · intro x hx hn
    rw [hmp] at hn
    rw [hpl, if_neg (fun e => hn (.inr e))] at hx
    exact h.off x hx (fun hm => hn (.inl hm))
  · intro x k y hk he
    have := h.lkf x k y hk he
    have := hpge y
    omega
  · intro x hx k y hk he hy
    rw [hmp] at hx
    have hy0 := h.lkf x k y hk he
    have hyo := h.lt.opf y hy0 hy
    rw [hpo y hyo]
    rcases hx with hx | hx
    · rw [hlo x (h.lt.pin hx)]
      exact h.onl x hx k y hk he hy
    · -- v has not looked at anything
      exfalso
      subst hx
      have hz : gt s.looked x = 0 := by
        apply Classical.byContradiction
        intro hne
        obtain ⟨k', hk'⟩ : ∃ k', gt s.looked x = k' + 1 := ⟨gt s.looked x - 1, by omega⟩
        have hb : k < gt s.looked x := hk
        exact hne (h.lt.lkz x h0)
      have hk' : k < gt s.looked x := hk
      omega
  · intro x hx hxp q hq ho k y he hy
    rw [hmo] at hx
    rw [hmp] at hxp hq
    rcases hx with hx | hx
    · have hd := h.off x (h.lt.opo x hx).1 (fun hm => hxp (.inl hm))
      have hy0 := h.lkf x k y (Nat.lt_of_lt_of_le (nx_deg he) hd) he
      have hyo := h.lt.opf y hy0 hy
      rcases hq with hq | hq
      · rw [hlo q (h.lt.pin hq), hpo y hyo]
        refine h.ofl x hx (fun hm => hxp (.inl hm)) q hq ⟨?_, fun r hr hlt => ?_⟩ k y he hy
        · have := ho.1
          rw [hpo q (h.lt.pin hq), hpo x hx] at this
          exact this
        · have := ho.2 r ((hmp r).2 (.inl hr)) (by rw [hpo r (h.lt.pin hr), hpo x hx]; exact hlt)
          rw [hpo r (h.lt.pin hr), hpo q (h.lt.pin hq)] at this
          exact this
      · have := ho.1
        rw [hq, hpl, if_pos rfl, hpo x hx] at this
        have := h.lt.bnd x
        omega
    · exact absurd (.inr hx) hxp
  · intro x hx
    rw [hmo] at hx
    rcases hx with hx | hx
    · obtain ⟨h1, z, hz, h2, h3⟩ := h.low x hx
      rw [hlo x hx, hpo x hx]
      exact ⟨h1, z, (hmo z).2 (.inl hz), by rw [hpo z hz]; exact h2, h3⟩
    · rw [hll, hpl, if_pos hx, if_pos hx]
      exact ⟨Nat.le_refl _, v, (hmo v).2 (.inr rfl), by rw [hpl, if_pos rfl], hx ▸ Re.refl _⟩
  · intro x hx hn
    rw [hmo] at hx
    rw [hmp] at hn
    rcases hx with hx | hx
    · rw [hlo x hx, hpo x hx]; exact h.lowo x hx (fun hm => hn (.inl hm))
    · exact absurd (.inr hx) hn
  · intro p hpp x hx hle
    rw [hmp] at hpp
    rw [hmo] at hx
    rcases hpp with hpp | hpp
    · rcases hx with hx | hx
      · rw [hpo p (h.lt.pin hpp), hpo x hx] at hle
        exact h.pre p hpp x hx hle
      · rcases hp with hp | hp
        · rw [hp] at hpp; exact absurd hpp List.not_mem_nil
        · rcases path_cases s.path with e | ⟨A, u, e⟩
          · rw [e] at hpp; exact absurd hpp List.not_mem_nil
          · rw [endS_app e] at hp
            have hu : u ∈ s.path := by rw [e]; simp
            have h1 : gt s.place p ≤ gt s.place u := by
              rw [e] at hpp
              rcases List.mem_append.1 hpp with hpa | hpa
              · exact Nat.le_of_lt (h.lt.endmax e p hpa)
              · have : p = u := by simpa using hpa
                rw [this]; exact Nat.le_refl _
            rw [hx]
            exact (h.pre p hpp u (h.lt.pin hu) h1).step hp
    · rcases hx with hx | hx
      · rw [hpp, hpl, if_pos rfl, hpo x hx] at hle
        have := h.lt.bnd x
        omega
      · rw [hpp, hx]; exact Re.refl _
  · intro x hx
    rw [hmo] at hx
    rcases hx with hx | hx
    · obtain ⟨p, hp1, hp2⟩ := h.own x hx
      exact ⟨p, (hmp p).2 (.inl hp1), by rw [hpo p (h.lt.pin hp1), hpo x hx]; exact hp2⟩
    · exact ⟨v, (hmp v).2 (.inr rfl), by rw [hx]; exact Nat.le_refl _⟩
theorem look_fu (h : Fu G s) {A : List Nat} {u v : Nat} (hp : s.path = A ++ [u]) (he : nx G u (gt s.looked u) = some v) (hv : gt s.place v ≠ 0) : Fu G (lookS s u v) := by
  have hL := look_lt h.lt hp he
  have hul : u < G.length := nx_lt he
  have hup : u ∈ s.path := by rw [hp]; simp
  have huo := h.lt.pin hup
  have hlk : ∀ x, gt (lookS s u v).looked x = if x = u then gt s.looked u + 1 else gt s.looked x := fun x => gt_set (by rw [h.lt.lk]; exact hul) _ _
  have hll : ∀ x, gt (lookS s u v).lowest x = if x = u ∧ gt s.number v = 0 then min (gt s.lowest u) (gt s.lowest v) else gt s.lowest x := fun x => by
    show gt (if gt s.number v = 0 then s.lowest.set u _ else s.lowest) x = _
    by_cases hn : gt s.number v = 0
    · rw [if_pos hn, gt_set (by rw [h.lt.ll]; exact hul)]
      by_cases hx : x = u
      · rw [if_pos hx, if_pos ⟨hx, hn⟩]
      · rw [if_neg hx, if_neg (fun hc => hx hc.1)]
    · rw [if_neg hn, if_neg (fun hc => hn hc.2)]
  have hle : ∀ x, gt (lookS s u v).lowest x ≤ gt s.lowest x := fun x => by
    rw [hll]
    split
    · rename_i hc; rw [hc.1]; exact Nat.min_le_left _ _
    · exact Nat.le_refl _
  refine ⟨hL, ?_, ?_, h.cls, ?_, ?_, ?_, ?_, h.pre, h.same, h.own⟩
  · intro x hx hn
    have := h.off x hx hn
    rw [hlk]
    split
    · rename_i e; rw [e] at this ⊢; omega
    · exact this
  · intro x k y hk hxy
    rw [hlk] at hk
    show gt s.place y ≠ 0
    by_cases hx : x = u
    · rw [if_pos hx] at hk
      by_cases hk2 : k < gt s.looked u
      · exact h.lkf u k y hk2 (hx ▸ hxy)
      · have : k = gt s.looked u := by omega
        rw [hx, this, he] at hxy
        exact (Option.some.inj hxy) ▸ hv
    · rw [if_neg hx] at hk
      exact h.lkf x k y hk hxy
  · intro x hx k y hk hxy hy
    rw [hlk] at hk
    show _ ≤ gt s.place y
    by_cases hxu : x = u
    · rw [if_pos hxu] at hk
      by_cases hk2 : k < gt s.looked u
      · exact Nat.le_trans (hle x) (h.onl x hx k y (hxu ▸ hk2) hxy hy)
      · have : k = gt s.looked u := by omega
        rw [hxu, this, he] at hxy
        have hyv : v = y := Option.some.inj hxy
        have hn : gt s.number v = 0 := hyv ▸ hy
        rw [hll, if_pos ⟨hxu, hn⟩, ← hyv]
        exact Nat.le_trans (Nat.min_le_right _ _) (h.low v (h.lt.opf v hv hn)).1
    · rw [if_neg hxu] at hk
      exact Nat.le_trans (hle x) (h.onl x hx k y hk hxy hy)
  · intro x hx hxp q hq ho k y hxy hy
    exact Nat.le_trans (hle q) (h.ofl x hx hxp q hq ho k y hxy hy)
  · intro x hx
    obtain ⟨h1, z, hz, h2, h3⟩ := h.low x hx
    refine ⟨Nat.le_trans (hle x) h1, ?_⟩
    show ∃ z ∈ s.opn, _ = gt s.place z ∧ _
    rw [hll]
    by_cases hc : x = u ∧ gt s.number v = 0
    · rw [if_pos hc]
      obtain ⟨-, z', hz', h2', h3'⟩ := h.low v (h.lt.opf v hv hc.2)
      by_cases hm : gt s.lowest u ≤ gt s.lowest v
      · rw [Nat.min_eq_left hm, ← hc.1]; exact ⟨z, hz, h2, h3⟩
      · rw [Nat.min_eq_right (by omega)]
        exact ⟨z', hz', h2', hc.1 ▸ (Re.one he).trans h3'⟩
    · rw [if_neg hc]; exact ⟨z, hz, h2, h3⟩
  · intro x hx hn
    exact Nat.lt_of_le_of_lt (hle x) (h.lowo x hx hn)
end
end Go.Proofs.YtigmdiagdlbdpaaGreat
namespace Go.Proofs.YtigmdiagdlbdpaaGreat
section
variable {G : List (List Nat)} {s : SS}
theorem leave_same (s : SS) (u : Nat) : (leaveS s u).place = s.place ∧ (leaveS s u).lowest = s.lowest ∧ (leaveS s u).looked = s.looked ∧ (leaveS s u).path = s.path.dropLast ∧ (leaveS s u).found = s.found := by
  unfold leaveS
  split <;> exact ⟨rfl, rfl, rfl, rfl, rfl⟩
theorem leave_open {u : Nat} (h : gt s.lowest u < gt s.place u) : leaveS s u = { s with path := s.path.dropLast } := by unfold leaveS; rw [if_pos h]
/-- Nothing open that was found before the path's end, which is its component's first, can be reached by an edge of the nodes found from it on. -/
theorem seg_edge (h : Fu G s) {A : List Nat} {v : Nat} (hp : s.path = A ++ [v]) (hd : degG G v ≤ gt s.looked v) (hlo : ¬ gt s.lowest v < gt s.place v) {x y k : Nat} (hx : x ∈ s.opn) (hvx : gt s.place v ≤ gt s.place x) (he : nx G x k = some y) (hy : gt s.number y = 0) :
    y ∈ s.opn ∧ gt s.place v ≤ gt s.place y := by
  have hvp : v ∈ s.path := by rw [hp]; simp
  have hvo := h.lt.pin hvp
  by_cases e : x = v
  · subst e
    have hk := Nat.lt_of_lt_of_le (nx_deg he) hd
    have hyo := h.lt.opf y (h.lkf x k y hk he) hy
    have := h.onl x hvp k y hk he hy
    exact ⟨hyo, by omega⟩
  · have hlt : gt s.place v < gt s.place x := by
      rcases Nat.lt_or_ge (gt s.place v) (gt s.place x) with h1 | h1
      · exact h1
      · exact absurd (h.lt.inj hx hvo (by omega)) e
    have hxp : x ∉ s.path := fun hm => by
      rw [hp] at hm
      rcases List.mem_append.1 hm with hm | hm
      · have := h.lt.endmax hp x hm; omega
      · exact e (by simpa using hm)
    have hk := Nat.lt_of_lt_of_le (nx_deg he) (h.off x (h.lt.opo x hx).1 hxp)
    have hyo := h.lt.opf y (h.lkf x k y hk he) hy
    have := h.ofl x hx hxp v hvp ⟨hlt, fun r hr _ => by
      rw [hp] at hr
      rcases List.mem_append.1 hr with hr | hr
      · exact Nat.le_of_lt (h.lt.endmax hp r hr)
      · have : r = v := by simpa using hr
        rw [this]; exact Nat.le_refl _⟩ k y he hy
    exact ⟨hyo, by omega⟩
theorem seg_reach (h : Fu G s) {A : List Nat} {v : Nat} (hp : s.path = A ++ [v]) (hd : degG G v ≤ gt s.looked v) (hlo : ¬ gt s.lowest v < gt s.place v) {x z : Nat} (hr : Re G x z) (hx : x ∈ s.opn) (hvx : gt s.place v ≤ gt s.place x) :
    (z ∈ s.opn ∧ gt s.place v ≤ gt s.place z) ∨ gt s.number z ≠ 0 := by
  induction hr with
  | refl => exact .inl ⟨hx, hvx⟩
  | step _ e ih =>
    rename_i y z k _
    by_cases hz : gt s.number z = 0
    · rcases ih with ⟨h1, h2⟩ | h1
      · exact .inl (seg_edge h hp hd hlo h1 h2 e hz)
      · exact absurd hz (h.cls y k z h1 e).1
    · exact .inr hz
/-- From each of them the path's end is reached. -/
theorem seg_back (h : Fu G s) {A : List Nat} {v : Nat} (hp : s.path = A ++ [v]) (hd : degG G v ≤ gt s.looked v) (hlo : ¬ gt s.lowest v < gt s.place v) : ∀ (n : Nat) (x : Nat), gt s.place x ≤ n → x ∈ s.opn → gt s.place v ≤ gt s.place x → Re G x v
  | 0, x, hn, hx, hvx => absurd (h.lt.opo x hx).1 (by omega)
  | n + 1, x, hn, hx, hvx => by
    have hvp : v ∈ s.path := by rw [hp]; simp
    by_cases e : x = v
    · rw [e]; exact Re.refl _
    · have hlt : gt s.place v < gt s.place x := by
        rcases Nat.lt_or_ge (gt s.place v) (gt s.place x) with h1 | h1
        · exact h1
        · exact absurd (h.lt.inj hx (h.lt.pin hvp) (by omega)) e
      have hxp : x ∉ s.path := fun hm => by
        rw [hp] at hm
        rcases List.mem_append.1 hm with hm | hm
        · have := h.lt.endmax hp x hm; omega
        · exact e (by simpa using hm)
      have h1 := h.lowo x hx hxp
      obtain ⟨-, z, hz, h2, h3⟩ := h.low x hx
      have h4 : gt s.place v ≤ gt s.place z := by
        rcases seg_reach h hp hd hlo h3 hx hvx with h5 | h5
        · exact h5.2
        · exact absurd (h.lt.opo z hz).2 h5
      exact h3.trans (seg_back h hp hd hlo n z (by omega) hz h4)
/-- A component is closed. -/
theorem close_fu (h : Fu G s) {A : List Nat} {v : Nat} (hp : s.path = A ++ [v]) (hd : degG G v ≤ gt s.looked v) (hlo : ¬ gt s.lowest v < gt s.place v) : Fu G (leaveS s v) := by
  have hL := leave_lt h.lt hp
  have hvp : v ∈ s.path := by rw [hp]; simp
  have hvo := h.lt.pin hvp
  obtain ⟨C, B, e, hC, hB, hCl, hBl⟩ := h.lt.split hvo
  obtain ⟨h1, h2, h3, h4⟩ := leave_close h.lt e hB hlo
  obtain ⟨e1, e2, e3, e4, e5⟩ := leave_same s v
  have hpa : (leaveS s v).path = A := by rw [e4, hp]; simp
  have hseg : ∀ x, (x ∈ B ∨ x = v) ↔ (x ∈ s.opn ∧ gt s.place v ≤ gt s.place x) := fun x => by
    constructor
    · rintro (hx | hx)
      · exact ⟨by rw [e]; simp [hx], Nat.le_of_lt (hBl x hx)⟩
      · rw [hx]; exact ⟨hvo, Nat.le_refl _⟩
    · rintro ⟨hx, hle⟩
      rw [e] at hx
      rcases List.mem_append.1 hx with hx | hx
      · have := hCl x hx; omega
      · exact (List.mem_cons.1 hx).elim .inr .inl
  have hnb : ∀ x, gt (leaveS s v).number x = if x ∈ s.opn ∧ gt s.place v ≤ gt s.place x then s.last + 1 else gt s.number x := fun x => by
    rw [h4]
    by_cases hc : x ∈ B ∨ x = v
    · rw [if_pos hc, if_pos ((hseg x).1 hc)]
    · rw [if_neg hc, if_neg (fun hh => hc ((hseg x).2 hh))]
  have hCo : ∀ x, x ∈ C ↔ x ∈ s.opn ∧ gt s.place x < gt s.place v := fun x => by
    constructor
    · intro hx; exact ⟨by rw [e]; simp [hx], hCl x hx⟩
    · rintro ⟨hx, hle⟩
      rw [e] at hx
      rcases List.mem_append.1 hx with hx | hx
      · exact hx
      · rcases List.mem_cons.1 hx with hx | hx
        · rw [hx] at hle; omega
        · have := hBl x hx; omega
  have hn0 : ∀ y, gt (leaveS s v).number y = 0 → gt s.number y = 0 := fun y hy => by
    rw [hnb] at hy
    split at hy
    · omega
    · exact hy
  have hAp : ∀ x, x ∈ A → x ∈ s.path := fun x hx => by rw [hp]; simp [hx]
  have hvA : v ∉ A := fun hm => by have := h.lt.endmax hp v hm; omega
  refine ⟨hL, ?_, ?_, ?_, ?_, ?_, ?_, ?_, ?_, ?_, ?_⟩
  · intro x hx hn
    rw [e1] at hx
    rw [hpa] at hn
    rw [e3]
    by_cases ev : x = v
    · rw [ev]; exact hd
    · exact h.off x hx (fun hm => by
        rw [hp] at hm
        rcases List.mem_append.1 hm with hm | hm
        · exact hn hm
        · exact ev (by simpa using hm))
  · intro x k y hk he
    rw [e3] at hk
    rw [e1]
    exact h.lkf x k y hk he
  · intro x k y hx he
    rw [hnb] at hx
    rw [hnb y, hnb x]
    by_cases hc : x ∈ s.opn ∧ gt s.place v ≤ gt s.place x
    · rw [if_pos hc]
      by_cases hy : gt s.number y = 0
      · rw [if_pos (seg_edge h hp hd hlo hc.1 hc.2 he hy)]
        exact ⟨by omega, Nat.le_refl _⟩
      · rw [if_neg (fun hh => hy (h.lt.opo y hh.1).2)]
        exact ⟨hy, by have := h.lt.nbl y; omega⟩
    · rw [if_neg hc] at hx ⊢
      have := h.cls x k y hx he
      rw [if_neg (fun hh => this.1 (h.lt.opo y hh.1).2)]
      exact this
  · intro x hx k y hk he hy
    rw [hpa] at hx
    rw [e3] at hk
    rw [e2, e1]
    exact h.onl x (hAp x hx) k y hk he (hn0 y hy)
  · intro x hx hxp q hq ho k y he hy
    rw [h1] at hx
    rw [hpa] at hxp hq
    rw [e2, e1]
    have hxo := (hCo x).1 hx
    have hxp' : x ∉ s.path := fun hm => by
      rw [hp] at hm
      rcases List.mem_append.1 hm with hm | hm
      · exact hxp hm
      · have : x = v := by simpa using hm
        rw [this] at hxo; omega
    refine h.ofl x hxo.1 hxp' q (hAp q hq) ⟨by have := ho.1; rw [e1] at this; exact this, fun r hr hlt => ?_⟩ k y he (hn0 y hy)
    rw [hp] at hr
    rcases List.mem_append.1 hr with hr | hr
    · have := ho.2 r (by rw [hpa]; exact hr)
      rw [e1] at this
      exact this hlt
    · have : r = v := by simpa using hr
      rw [this] at hlt; omega
  · intro x hx
    rw [h1] at hx
    have hxo := (hCo x).1 hx
    obtain ⟨g1, z, hz, g2, g3⟩ := h.low x hxo.1
    rw [e2, e1]
    exact ⟨g1, z, by rw [h1]; exact (hCo z).2 ⟨hz, by omega⟩, g2, g3⟩
  · intro x hx hn
    rw [h1] at hx
    rw [hpa] at hn
    have hxo := (hCo x).1 hx
    rw [e2, e1]
    exact h.lowo x hxo.1 (fun hm => by
      rw [hp] at hm
      rcases List.mem_append.1 hm with hm | hm
      · exact hn hm
      · have : x = v := by simpa using hm
        rw [this] at hxo; omega)
  · intro p hpp x hx hle
    rw [hpa] at hpp
    rw [h1] at hx
    rw [e1] at hle
    exact h.pre p (hAp p hpp) x ((hCo x).1 hx).1 hle
  · intro x y hx hxy
    rw [hnb] at hx
    rw [hnb x, hnb y] at hxy
    by_cases hc : x ∈ s.opn ∧ gt s.place v ≤ gt s.place x
    · rw [if_pos hc] at hxy
      by_cases hc2 : y ∈ s.opn ∧ gt s.place v ≤ gt s.place y
      · exact (seg_back h hp hd hlo _ x (Nat.le_refl _) hc.1 hc.2).trans (h.pre v hvp y hc2.1 hc2.2)
      · rw [if_neg hc2] at hxy
        have := h.lt.nbl y
        omega
    · rw [if_neg hc] at hxy hx
      by_cases hc2 : y ∈ s.opn ∧ gt s.place v ≤ gt s.place y
      · rw [if_pos hc2] at hxy
        have := h.lt.nbl x
        omega
      · rw [if_neg hc2] at hxy
        exact h.same x y hx hxy
  · intro x hx
    rw [h1] at hx
    have hxo := (hCo x).1 hx
    obtain ⟨p, hp1, hp2⟩ := h.own x hxo.1
    refine ⟨p, ?_, by rw [e1]; exact hp2⟩
    rw [hpa]
    rw [hp] at hp1
    rcases List.mem_append.1 hp1 with hp1 | hp1
    · exact hp1
    · have : p = v := by simpa using hp1
      rw [this] at hp2; omega
/-- A node that is not its component's first is left, and the node before it on the path looks at it. -/
theorem back_fu (h : Fu G s) {A : List Nat} {u v : Nat} (hp : s.path = A ++ [u] ++ [v]) (hd : degG G v ≤ gt s.looked v) (hlo : gt s.lowest v < gt s.place v) : Fu G (lookS (leaveS s v) u v) := by
  have hL1 := leave_lt h.lt hp
  have hs : leaveS s v = { s with path := A ++ [u] } := by rw [leave_open hlo, hp]; simp
  have hvp : v ∈ s.path := by rw [hp]; simp
  have hvo := h.lt.pin hvp
  have hup : u ∈ s.path := by rw [hp]; simp
  have huo := h.lt.pin hup
  have hed : nx G u (gt s.looked u) = some v := h.lt.chain A u v [] (by rw [hp]; simp)
  have hul : u < G.length := nx_lt hed
  have hv0 : gt s.number v = 0 := (h.lt.opo v hvo).2
  rw [hs] at hL1 ⊢
  have hL := look_lt hL1 (A := A) (u := u) (v := v) rfl hed
  have huv : u ≠ v := fun e => by
    have := h.lt.endmax hp u (by simp)
    rw [e] at this; omega
  have hlk : ∀ x, gt (lookS { s with path := A ++ [u] } u v).looked x = if x = u then gt s.looked u + 1 else gt s.looked x := fun x => gt_set (by rw [h.lt.lk]; exact hul) _ _
  have hll : ∀ x, gt (lookS { s with path := A ++ [u] } u v).lowest x = if x = u then min (gt s.lowest u) (gt s.lowest v) else gt s.lowest x := fun x => by
    show gt (if gt s.number v = 0 then s.lowest.set u _ else s.lowest) x = _
    rw [if_pos hv0]
    exact gt_set (by rw [h.lt.ll]; exact hul) _ _
  have hle : ∀ x, gt (lookS { s with path := A ++ [u] } u v).lowest x ≤ gt s.lowest x := fun x => by
    rw [hll]
    split
    · rename_i hc; rw [hc]; exact Nat.min_le_left _ _
    · exact Nat.le_refl _
  have hmem : ∀ x, x ∈ s.path ↔ x ∈ A ++ [u] ∨ x = v := fun x => by rw [hp]; simp [or_assoc]
  refine ⟨hL, ?_, ?_, h.cls, ?_, ?_, ?_, ?_, ?_, h.same, ?_⟩
  · intro x hx hn
    have hn' : x ∉ A ++ [u] := hn
    rw [hlk]
    have hxu : x ≠ u := fun e => hn' (by simp [e])
    rw [if_neg hxu]
    by_cases ev : x = v
    · rw [ev]; exact hd
    · exact h.off x hx (fun hm => ((hmem x).1 hm).elim hn' ev)
  · intro x k y hk hxy
    rw [hlk] at hk
    show gt s.place y ≠ 0
    by_cases hx : x = u
    · rw [if_pos hx] at hk
      by_cases hk2 : k < gt s.looked u
      · exact h.lkf u k y hk2 (hx ▸ hxy)
      · have : k = gt s.looked u := by omega
        rw [hx, this, hed] at hxy
        exact (Option.some.inj hxy) ▸ (h.lt.opo v hvo).1
    · rw [if_neg hx] at hk
      exact h.lkf x k y hk hxy
  · intro x hx k y hk hxy hy
    have hx' : x ∈ s.path := (hmem x).2 (.inl hx)
    rw [hlk] at hk
    show _ ≤ gt s.place y
    by_cases hxu : x = u
    · rw [if_pos hxu] at hk
      by_cases hk2 : k < gt s.looked u
      · exact Nat.le_trans (hle x) (h.onl x hx' k y (hxu ▸ hk2) hxy hy)
      · have : k = gt s.looked u := by omega
        rw [hxu, this, hed] at hxy
        have hyv : v = y := Option.some.inj hxy
        rw [hll, if_pos hxu, ← hyv]
        exact Nat.le_trans (Nat.min_le_right _ _) (h.low v hvo).1
    · rw [if_neg hxu] at hk
      exact Nat.le_trans (hle x) (h.onl x hx' k y hk hxy hy)
  · intro x hx hxp q hq ho k y hxy hy
    have hxp' : x ∉ A ++ [u] := hxp
    have hq' : q ∈ A ++ [u] := hq
    have hqp := (hmem q).2 (.inl hq')
    show _ ≤ gt s.place y
    rcases Nat.lt_or_ge (gt s.place x) (gt s.place v) with hxv | hxv
    · have hxn : x ∉ s.path := fun hm => ((hmem x).1 hm).elim hxp' (fun e => by rw [e] at hxv; omega)
      refine Nat.le_trans (hle q) (h.ofl x hx hxn q hqp ⟨ho.1, fun r hr hlt => ?_⟩ k y hxy hy)
      rcases (hmem r).1 hr with hr | hr
      · exact ho.2 r hr hlt
      · rw [hr] at hlt; omega
    · have hqu : q = u := by
        have h5 : gt s.place u < gt s.place v := h.lt.endmax hp u (by simp)
        have h6 := ho.2 u (show u ∈ A ++ [u] by simp) (show gt s.place u < gt s.place x by omega)
        have h7 : gt s.place q ≤ gt s.place u := by
          rcases List.mem_append.1 hq' with hq2 | hq2
          · have := (hL1.endmax (A := A) (u := u) rfl) q hq2
            exact Nat.le_of_lt this
          · have : q = u := by simpa using hq2
            rw [this]; exact Nat.le_refl _
        have h6' : gt s.place u ≤ gt s.place q := h6
        exact h.lt.inj (h.lt.pin hqp) huo (by omega)
      rw [hll, if_pos hqu]
      refine Nat.le_trans (Nat.min_le_right _ _) ?_
      by_cases exv : x = v
      · have hk := Nat.lt_of_lt_of_le (nx_deg (exv ▸ hxy)) hd
        exact h.onl v hvp k y hk (exv ▸ hxy) hy
      · have hlt : gt s.place v < gt s.place x := by
          rcases Nat.lt_or_ge (gt s.place v) (gt s.place x) with h8 | h8
          · exact h8
          · exact absurd (h.lt.inj hx hvo (by omega)) exv
        have hxn : x ∉ s.path := fun hm => ((hmem x).1 hm).elim hxp' exv
        refine h.ofl x hx hxn v hvp ⟨hlt, fun r hr _ => ?_⟩ k y hxy hy
        rcases (hmem r).1 hr with hr | hr
        · exact Nat.le_of_lt (h.lt.endmax hp r hr)
        · rw [hr]; exact Nat.le_refl _
  · intro x hx
    obtain ⟨h1, z, hz, h2, h3⟩ := h.low x hx
    refine ⟨Nat.le_trans (hle x) h1, ?_⟩
    show ∃ z ∈ s.opn, _ = gt s.place z ∧ _
    rw [hll]
    by_cases hc : x = u
    · rw [if_pos hc]
      obtain ⟨-, z', hz', h2', h3'⟩ := h.low v hvo
      by_cases hm : gt s.lowest u ≤ gt s.lowest v
      · rw [Nat.min_eq_left hm, ← hc]; exact ⟨z, hz, h2, h3⟩
      · rw [Nat.min_eq_right (by omega)]
        exact ⟨z', hz', h2', hc ▸ (Re.one hed).trans h3'⟩
    · rw [if_neg hc]; exact ⟨z, hz, h2, h3⟩
  · intro x hx hn
    have hn' : x ∉ A ++ [u] := hn
    refine Nat.lt_of_le_of_lt (hle x) ?_
    by_cases ev : x = v
    · rw [ev]; exact hlo
    · exact h.lowo x hx (fun hm => ((hmem x).1 hm).elim hn' ev)
  · intro p hpp x hx hle2
    exact h.pre p ((hmem p).2 (.inl hpp)) x hx hle2
  · intro x hx
    obtain ⟨p, hp1, hp2⟩ := h.own x hx
    rcases (hmem p).1 hp1 with hp1 | hp1
    · exact ⟨p, hp1, hp2⟩
    · refine ⟨u, by show u ∈ A ++ [u]; simp, ?_⟩
      have := h.lt.endmax hp u (by simp)
      rw [hp1] at hp2
      show gt s.place u ≤ gt s.place x
      omega
/-- What holds between two steps. -/
def Jn (G : List (List Nat)) (s : SS) : Prop := Fu G s ∨ (Lt G s ∧ ∃ A u v, s.path = A ++ [u] ∧ nx G u (gt s.looked u) = some v ∧ gt s.place v ≠ 0 ∧ Fu G (lookS s u v))
theorem Jn.lt (h : Jn G s) : Lt G s := h.elim (·.lt) (·.1)
theorem Jn.fu (h : Jn G s) (hp : s.path = []) : Fu G s := by
  rcases h with h | ⟨-, A, u, v, h1, -⟩
  · exact h
  · rw [hp] at h1; simp at h1
theorem step_jn (hG : ValidG G) (h : Jn G s) (hp : s.path ≠ []) : Jn G (stepS G s) := by
  rcases path_cases s.path with e | ⟨A, u, e⟩
  · exact absurd e hp
  have hend : endS s = u := endS_app e
  rcases h with h | ⟨hL, A', u', v, h1, h2, h3, h4⟩
  · unfold stepS
    rw [hend]
    cases he : nx G u (gt s.looked u) with
    | some v =>
      simp only
      by_cases hv : gt s.place v = 0
      · rw [if_pos hv]
        exact .inl (enter_fu h (hG u _ v he) hv (.inr (by rw [hend]; exact he)))
      · rw [if_neg hv]
        exact .inl (look_fu h e he hv)
    | none =>
      simp only
      have hd := nx_none he
      by_cases hlo : gt s.lowest u < gt s.place u
      · rcases path_cases A with rfl | ⟨B, q, rfl⟩
        · exfalso
          have hup : u ∈ s.path := by rw [e]; simp
          obtain ⟨-, z, hz, g2, -⟩ := h.low u (h.lt.pin hup)
          obtain ⟨p, hp1, hp2⟩ := h.own z hz
          rw [e] at hp1
          have : p = u := by simpa using hp1
          rw [this] at hp2
          omega
        · refine .inr ⟨leave_lt h.lt e, B, q, u, by rw [(leave_same s u).2.2.2.1, e]; simp, ?_, ?_, back_fu h e hd hlo⟩
          · rw [(leave_same s u).2.2.1]
            exact h.lt.chain B q u [] (by rw [e]; simp)
          · rw [(leave_same s u).1]
            exact (h.lt.opo u (h.lt.pin (by rw [e]; simp))).1
      · exact .inl (close_fu h e hd hlo)
  · have hu : u' = u := by
      rw [e] at h1
      have := List.append_inj' h1 rfl
      simpa using this.2.symm
    subst hu
    unfold stepS
    rw [hend, h2]
    simp only
    rw [if_neg h3]
    exact .inl h4
end
end Go.Proofs.YtigmdiagdlbdpaaGreat
namespace Go.Proofs.YtigmdiagdlbdpaaGreat
section
variable {G : List (List Nat)} {s : SS}
theorem step_mu (hG : ValidG G) (h : Lt G s) (hp : s.path ≠ []) : mu G (stepS G s) + 1 ≤ mu G s := by
  rcases path_cases s.path with e | ⟨A, u, e⟩
  · exact absurd e hp
  have hend : endS s = u := endS_app e
  have hul : ∀ v, nx G u (gt s.looked u) = some v → u < G.length := fun v he => nx_lt he
  unfold stepS
  rw [hend]
  cases he : nx G u (gt s.looked u) with
  | some v =>
    simp only
    by_cases hv : gt s.place v = 0
    · rw [if_pos hv]
      unfold mu
      show 2 * cz (s.place.set v (s.found + 1)) + rest G s.looked + (s.path ++ [v]).length + 1 ≤ _
      rw [List.length_append, List.length_singleton]
      have hvl : v < s.place.length := by rw [h.lp]; exact hG u _ v he
      have := cz_set hvl hv (v := s.found + 1) (by omega)
      omega
    · rw [if_neg hv]
      unfold mu
      show 2 * cz s.place + rest G (s.looked.set u (gt s.looked u + 1)) + s.path.length + 1 ≤ _
      have := rest_set (G := G) (l := s.looked) h.lk (hul v he) (nx_deg he)
      omega
  | none =>
    simp only
    obtain ⟨e1, e2, e3, e4, e5⟩ := leave_same s u
    unfold mu
    rw [e1, e3, e4, e]
    simp
    omega
theorem run_nil {f : Nat} (hp : s.path = []) : runS G f s = s := by
  cases f with
  | zero => rfl
  | succ f => unfold runS; rw [if_pos hp]
theorem run_step {f : Nat} (hp : s.path ≠ []) : runS G (f + 1) s = runS G f (stepS G s) := by
  conv => lhs; unfold runS
  rw [if_neg hp]
theorem mu_nil (h : mu G s = 0) : s.path = [] := by
  unfold mu at h
  exact List.length_eq_zero_iff.1 (by omega)
/-- A property of found nodes that edges carry on. -/
def Rc (P : Nat → Prop) (s : SS) : Prop := ∀ x, gt s.place x ≠ 0 → P x
theorem step_rc (hG : ValidG G) (h : Lt G s) {P : Nat → Prop} (hP : ∀ x k y, P x → nx G x k = some y → P y) (hr : Rc P s) (hp : s.path ≠ []) : Rc P (stepS G s) ∧ ∀ x, gt s.place x ≠ 0 → gt (stepS G s).place x ≠ 0 := by
  rcases path_cases s.path with e | ⟨A, u, e⟩
  · exact absurd e hp
  have hend : endS s = u := endS_app e
  unfold stepS
  rw [hend]
  cases he : nx G u (gt s.looked u) with
  | some v =>
    simp only
    by_cases hv : gt s.place v = 0
    · rw [if_pos hv]
      have hvl : v < s.place.length := by rw [h.lp]; exact hG u _ v he
      have hpl : ∀ x, gt (enterS s v).place x = if x = v then s.found + 1 else gt s.place x := fun x => gt_set hvl _ _
      refine ⟨fun x hx => ?_, fun x hx => ?_⟩
      · rw [hpl] at hx
        by_cases ev : x = v
        · rw [ev]
          exact hP u _ v (hr u (h.opo u (h.pin (by rw [e]; simp))).1) he
        · rw [if_neg ev] at hx; exact hr x hx
      · rw [hpl]
        split
        · omega
        · exact hx
    · rw [if_neg hv]; exact ⟨hr, fun x hx => hx⟩
  | none =>
    simp only
    unfold Rc
    rw [(leave_same s u).1]
    exact ⟨hr, fun x hx => hx⟩
theorem run_all (hG : ValidG G) {P : Nat → Prop} (hP : ∀ x k y, P x → nx G x k = some y → P y) : ∀ (f : Nat) {s : SS}, Jn G s → Rc P s → mu G s ≤ f → Jn G (runS G f s) ∧ Rc P (runS G f s) ∧ (runS G f s).path = [] ∧ ∀ x, gt s.place x ≠ 0 → gt (runS G f s).place x ≠ 0
  | 0, s, h, hr, hm => ⟨h, hr, mu_nil (G := G) (Nat.le_zero.1 hm), fun _ hx => hx⟩
  | f + 1, s, h, hr, hm => by
    by_cases hp : s.path = []
    · rw [run_nil hp]; exact ⟨h, hr, hp, fun _ hx => hx⟩
    · rw [run_step hp]
      have h1 := step_mu hG h.lt hp
      have h2 := step_rc hG h.lt hP hr hp
      have h3 := run_all hG hP f (step_jn hG h hp) h2.1 (by omega)
      exact ⟨h3.1, h3.2.1, h3.2.2.1, fun x hx => h3.2.2.2 x (h2.2 x hx)⟩
theorem cz_le (l : List Nat) : cz l ≤ l.length := List.countP_le_length
theorem start_mu (h : Lt G s) (hp : s.path = []) {v : Nat} (hv : v < G.length) : mu G (if gt s.place v = 0 then enterS s v else s) ≤ fuelG G := by
  have h1 := rest_le G s.looked
  have h2 := cz_le s.place
  rw [h.lp] at h2
  split
  · rename_i h0
    unfold mu fuelG
    show 2 * cz (s.place.set v (s.found + 1)) + rest G s.looked + (s.path ++ [v]).length ≤ _
    have := cz_set (by rw [h.lp]; exact hv) h0 (v := s.found + 1) (by omega)
    rw [hp]
    simp
    omega
  · unfold mu fuelG
    rw [hp]
    simp
    omega
theorem start_all (hG : ValidG G) {P : Nat → Prop} (hP : ∀ x k y, P x → nx G x k = some y → P y) (h : Fu G s) (hr : Rc P s) (hp : s.path = []) {v : Nat} (hv : v < G.length) (hPv : P v) : Fu G (startS G s v) ∧ Rc P (startS G s v) ∧ (startS G s v).path = [] ∧ (∀ x, gt s.place x ≠ 0 → gt (startS G s v).place x ≠ 0) ∧ gt (startS G s v).place v ≠ 0 := by
  have hm := start_mu h.lt hp hv
  have hJ : Jn G (if gt s.place v = 0 then enterS s v else s) := by
    split
    · rename_i h0; exact .inl (enter_fu h hv h0 (.inl hp))
    · exact .inl h
  have hvl : v < s.place.length := by rw [h.lt.lp]; exact hv
  have hpl : ∀ x, gt (enterS s v).place x = if x = v then s.found + 1 else gt s.place x := fun x => gt_set hvl _ _
  have hR : Rc P (if gt s.place v = 0 then enterS s v else s) := by
    split
    · intro x hx
      rw [hpl] at hx
      by_cases e : x = v
      · rw [e]; exact hPv
      · rw [if_neg e] at hx; exact hr x hx
    · exact hr
  obtain ⟨h1, h2, h3, h4⟩ := run_all hG hP (fuelG G) hJ hR hm
  refine ⟨h1.fu h3, h2, h3, fun x hx => h4 x ?_, h4 v ?_⟩
  · split
    · rw [hpl]
      split
      · omega
      · exact hx
    · exact hx
  · split
    · rw [hpl, if_pos rfl]; omega
    · rename_i h0; exact h0
theorem starts_all (hG : ValidG G) {P : Nat → Prop} (hP : ∀ x k y, P x → nx G x k = some y → P y) : ∀ (l : List Nat) {s : SS}, Fu G s → Rc P s → s.path = [] → (∀ v ∈ l, v < G.length ∧ P v) →
    Fu G (l.foldl (startS G) s) ∧ Rc P (l.foldl (startS G) s) ∧ (l.foldl (startS G) s).path = [] ∧ (∀ x, gt s.place x ≠ 0 → gt (l.foldl (startS G) s).place x ≠ 0) ∧ ∀ v ∈ l, gt (l.foldl (startS G) s).place v ≠ 0
  | [], s, h, hr, hp, _ => ⟨h, hr, hp, fun _ hx => hx, fun _ hv => absurd hv List.not_mem_nil⟩
  | v :: l, s, h, hr, hp, hl => by
    have hv := hl v (List.mem_cons_self ..)
    obtain ⟨h1, h2, h3, h4, h5⟩ := start_all hG hP h hr hp hv.1 hv.2
    obtain ⟨g1, g2, g3, g4, g5⟩ := starts_all hG hP l h1 h2 h3 (fun u hu => hl u (List.mem_cons_of_mem _ hu))
    refine ⟨g1, g2, g3, fun x hx => g4 x (h4 x hx), fun u hu => ?_⟩
    rcases List.mem_cons.1 hu with rfl | hu
    · exact g4 _ h5
    · exact g5 u hu
/-- The numbers. -/
structure Nums (G : List (List Nat)) (starts N : List Nat) : Prop where
  len : N.length = G.length
  down : ∀ x k y, gt N x ≠ 0 → nx G x k = some y → gt N y ≠ 0 ∧ gt N y ≤ gt N x
  same : ∀ x y, gt N x ≠ 0 → gt N x = gt N y → Re G x y
  all : ∀ v ∈ starts, gt N v ≠ 0
  fro : ∀ x, gt N x ≠ 0 → ∃ v ∈ starts, Re G v x
  bnd : ∀ x, gt N x ≤ G.length
theorem nums_ok (hG : ValidG G) (l : List Nat) (hl : ∀ v ∈ l, v < G.length) : Nums G l (numbersS G l) := by
  obtain ⟨h1, h2, h3, -, h5⟩ := starts_all hG (P := fun x => ∃ v ∈ l, Re G v x) (fun x k y ⟨v, hv, hr⟩ e => ⟨v, hv, hr.step e⟩) l (s0_fu G) (fun x hx => absurd (zget _ x) hx) rfl (fun v hv => ⟨hl v hv, v, hv, Re.refl v⟩)
  have hop : (l.foldl (startS G) (s0S G.length)).opn = [] := by
    cases ho : (l.foldl (startS G) (s0S G.length)).opn with
    | nil => rfl
    | cons x r =>
      obtain ⟨p, hp, -⟩ := h1.own x (by rw [ho]; simp)
      rw [h3] at hp
      exact absurd hp List.not_mem_nil
  refine ⟨h1.lt.ln, h1.cls, h1.same, fun v hv => ?_, fun x hx => h2 x (h1.lt.nbp x hx), fun x => ?_⟩
  · intro hn
    have := h1.lt.opf v (h5 v hv) hn
    rw [hop] at this
    exact absurd this List.not_mem_nil
  · have h6 := h1.lt.nbl x
    have h7 := h1.lt.lst
    have h8 := h1.lt.fnd
    show gt (l.foldl (startS G) (s0S G.length)).number x ≤ _
    omega
theorem Nums.re {starts N : List Nat} (h : Nums G starts N) {x y : Nat} (hr : Re G x y) (hx : gt N x ≠ 0) : gt N y ≠ 0 ∧ gt N y ≤ gt N x := by
  induction hr with
  | refl => exact ⟨hx, Nat.le_refl _⟩
  | step _ e ih =>
    have := h.down _ _ _ ih.1 e
    exact ⟨this.1, Nat.le_trans this.2 ih.2⟩
/-- Two nodes have the same number if and only if each reaches the other. -/
theorem Nums.iff {starts N : List Nat} (h : Nums G starts N) {x y : Nat} (hx : gt N x ≠ 0) : gt N x = gt N y ↔ Re G x y ∧ Re G y x := by
  constructor
  · intro e
    exact ⟨h.same x y hx e, h.same y x (e ▸ hx) e.symm⟩
  · rintro ⟨h1, h2⟩
    have h3 := h.re h1 hx
    have h4 := h.re h2 h3.1
    omega
theorem Nums.reach {starts N : List Nat} (h : Nums G starts N) (x : Nat) : gt N x ≠ 0 ↔ ∃ v ∈ starts, Re G v x :=
  ⟨h.fro x, fun ⟨v, hv, hr⟩ => (h.re hr (h.all v hv)).1⟩
end
end Go.Proofs.YtigmdiagdlbdpaaGreat
