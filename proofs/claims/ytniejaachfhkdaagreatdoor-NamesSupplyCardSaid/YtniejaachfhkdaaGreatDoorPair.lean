/-
  The program's supply and the reference's side by side: the same names used; step keeps them so.
-/
import Derived.Test.YtniejaachfhkdaaGreatDoorStep
import Derived.Test.YtniejaachfhkdaaGreatDoorClone
namespace Go.Proofs.YtniejaachfhkdaaGreatDoor
open Go.RowKit Go.Maps
theorem Sup.lts {W w : World} {p : Pl} {U T N} (h : Sup W p U T N w) : ∀ i, p.has i → W.heap.size ≤ i ∧ i < w.heap.size := by
  obtain ⟨_, hu, _⟩ := h.ou
  obtain ⟨_, ht, _⟩ := h.ot
  rintro i (rfl | rfl | rfl)
  · exact ⟨h.la, lt_of_block h.blk⟩
  · exact ⟨h.lu, hu.lt⟩
  · exact ⟨h.lt, ht.lt⟩
theorem Take_no' (W w : World) (p : Pl) (U T N) (s : ByteArray) (hs : s.size ≤ 2000000) (hS : Sup W p U T N w) (hu : U.contains s.data.toList = true) :
    Calls Tryz.prog 35 #[.pointer (some ⟨p.a, 0, none⟩), .string s] w fun e w' => e = .returned (.bool false) ∧ w = w' := Take_no W w p U T N s hs hS hu
/-- The lists hold the same names; every number up to the one tried last is used; how many they can be. -/
structure InvP (ns : List ByteArray) (U : List (List UInt8)) (T : List UInt8 → Nat) (j N : Nat) : Prop where
  eq : ∀ x, U.contains x = ns.any (fun y => y.data.toList == x)
  full : ∀ (b : ByteArray) (i : Nat), 1 ≤ i → i ≤ T b.data.toList → U.contains (mkL b (i : Int)) = true
  ln : ns.length ≤ 40 + j
  lu : U.length ≤ 40 + j
  lN : N ≤ 40 + j * 1000
theorem InvP.start (ss : List ByteArray) (h : ss.length ≤ 40) : InvP ss (usedOf ss) (fun _ => 0) 0 ss.length := by
  refine ⟨fun x => ?_, fun b i h1 h2 => absurd h2 (by omega), by omega, by simp [usedOf]; omega, by omega⟩
  rw [Bool.eq_iff_iff]
  simp [usedOf, List.any_eq_true]
set_option maxRecDepth 10000 in
theorem InvP.next {ns U T j N} (h : InvP ns U T j N) : InvP ns U T (j + 1) N := ⟨h.eq, h.full, by have := h.ln; omega, by have := h.lu; omega, by have := h.lN; omega⟩
theorem InvP.take {ns U T j N} (h : InvP ns U T j N) (s : ByteArray) : InvP (ns ++ [s]) (s.data.toList :: U) T (j + 1) (N + 1) := by
  refine ⟨fun x => ?_, fun b i h1 h2 => ?_, by have := h.ln; simp; omega, by have := h.lu; simp; omega, by have := h.lN; omega⟩
  · rw [List.any_append, ← h.eq, List.contains_cons]
    by_cases e : s.data.toList = x
    · subst e; simp
    · have e2 : (x == s.data.toList) = false := by simp; exact fun h => e h.symm
      simp [e, e2]
  · rw [List.contains_cons, h.full b i h1 h2]; simp
theorem InvP.fresh {ns U T j N} (h : InvP ns U T j N) (hj : j ≤ 80) (B : ByteArray) {J : Nat} (hJ : J ≤ U.length + 1)
    (hlt : ∀ i, 1 ≤ i → i < J → U.contains (mkL B ((T B.data.toList + i : Nat) : Int)) = true) :
    InvP (ns ++ [madeB B ((T B.data.toList + J : Nat) : Int)]) (mkL B ((T B.data.toList + J : Nat) : Int) :: U) (upd T B.data.toList (T B.data.toList + J)) (j + 1) (N + J + 1) := by
  have ht := h.take (madeB B ((T B.data.toList + J : Nat) : Int))
  refine ⟨ht.eq, fun b i h1 h2 => ?_, ht.ln, ht.lu, by have := h.lu; have := h.lN; omega⟩
  rw [List.contains_cons]
  by_cases e : b.data.toList = B.data.toList
  · have eb : b = B := by cases b; cases B; simp at e; rw [e]
    subst eb
    rw [upd_at] at h2
    by_cases h3 : i ≤ T b.data.toList
    · rw [h.full b i h1 h3]; simp
    · by_cases h4 : i = T b.data.toList + J
      · subst h4; simp
      · have := hlt (i - T b.data.toList) (by omega) (by omega)
        rw [show T b.data.toList + (i - T b.data.toList) = i from by omega] at this
        rw [this]; simp
  · have : upd T B.data.toList (T B.data.toList + J) b.data.toList = T b.data.toList := by simp [upd, e]
    rw [this] at h2
    rw [h.full b i h1 h2]; simp
structure Both (W : World) (p : Pl) (r : Nat) (v : Value) (ns : List ByteArray) (U : List (List UInt8)) (T : List UInt8 → Nat) (N j : Nat) (w : World) : Prop where
  S : Sup W p U T N w
  R : RS W r v ns w
  I : InvP ns U T j N
  dis : ∀ i, rK r v i → ¬ p.has i
def bK (p : Pl) (r : Nat) (v : Value) : Nat → Prop := fun i => p.has i ∨ rK r v i
theorem utK_has {p : Pl} {i : Nat} (h : utK p i) : p.has i := by
  rcases h with h | h
  · exact .inr (.inl h)
  · exact .inr (.inr h)
theorem Both.below {W w w' : World} {p r v ns U T N j} (h : Both W p r v ns U T N j w) (hb : Below w.heap.size w w') : Both W p r v ns U T N j w' := ⟨h.S.below hb, h.R.below hb, h.I, h.dis⟩
theorem Both.next {W w : World} {p r v ns U T N j} (h : Both W p r v ns U T N j w) : Both W p r v ns U T N (j + 1) w := ⟨h.S, h.R, h.I.next, h.dis⟩
theorem Both.lts {W w : World} {p r v ns U T N j} (h : Both W p r v ns U T N j w) : ∀ i, bK p r v i → W.heap.size ≤ i ∧ i < w.heap.size := by
  rintro i (hi | hi)
  · exact h.S.lts i hi
  · exact h.R.lts i hi
theorem Both.only {W w w' : World} {p r v ns U T N j} {K : Nat → Prop} (h : Both W p r v ns U T N j w) (ho : Only K w w') (hk : ∀ i, K i → W.heap.size ≤ i) (hp : ∀ i, K i → ¬ bK p r v i) : Both W p r v ns U T N j w' :=
  ⟨h.S.only ho hk (fun i hi hc => hp i hi (.inl hc)), h.R.only ho hk (fun i hi hc => hp i hi (.inr hc)), h.I, h.dis⟩
/-- Where the slice lies behind a call. -/
def Lies (v v' : Value) (w : World) : Prop := v'.ownBlock = v.ownBlock ∨ ∃ g, v'.ownBlock = some g ∧ w.heap.size ≤ g
theorem dis_next {p : Pl} {r : Nat} {v v' : Value} {w : World} (hd : ∀ i, rK r v i → ¬ p.has i) (hl : Lies v v' w) (hp : ∀ i, p.has i → i < w.heap.size) : ∀ i, rK r v' i → ¬ p.has i := by
  rintro i (rfl | hi) hc
  · exact hd _ (.inl rfl) hc
  · rcases hl with hl | ⟨g, hg, hgs⟩
    · rw [hl] at hi; exact hd i (.inr hi) hc
    · rw [hg] at hi; cases hi; have := hp _ hc; omega
theorem cell_kept {K : Nat → Prop} {w wd w1 : World} {q : Int} {x : ByteArray} (hwd : wd = opW w q x) (ho : Only K wd w1) (hk : ∀ i, K i → i < w.heap.size) : w1.cell? ⟨w.heap.size, 1, none⟩ = some (.string x) := by
  subst hwd
  have hlt : w.heap.size < (opW w q x).heap.size := by show _ < (w.heap.push _).size; rw [Array.size_push]; omega
  exact (World.cell?_of_block (ho.block _ hlt (fun hc => absurd (hk _ hc) (Nat.lt_irrefl _)))).trans (opW_cell w q x)
set_option maxRecDepth 10000 in
theorem step_q (W w : World) (p : Pl) (r : Nat) (v : Value) (ns U T N j) (q : Int) (x : ByteArray) (hx : x.size ≤ 100) (hj : j ≤ 80) (hB : Both W p r v ns U T N j w) :
    Calls Tryz.prog 22 #[.pointer (some ⟨p.a, 0, none⟩), .pointer (some ⟨r, 0, none⟩), .agg #[.int .i64 q, .string x]] w fun e w' => e = .returned (.bool true) ∧
      ∃ v' ns' U' T' N', Both W p r v' ns' U' T' N' (j + 1) w' ∧ Only (bK p r v) w w' ∧ Lies v v' w := by
  obtain ⟨wd, hwd⟩ : ∃ wd, wd = opW w q x := ⟨_, rfl⟩
  have hbd : Below w.heap.size w wd := by rw [hwd]; exact opW_below w q x
  have hB1 := hB.below hbd
  have hln := hB.I.ln
  have hlu := hB.I.lu
  have hlN := hB.I.lN
  have hrest : ∀ w', Below w.heap.size w w' → ∃ v' ns' U' T' N', Both W p r v' ns' U' T' N' (j + 1) w' ∧ Only (bK p r v) w w' ∧ Lies v v' w :=
    fun w' h => ⟨v, ns, U, T, N, (hB.below h).next, Only.of_below h, .inl rfl⟩
  by_cases hq : q = 0
  · subst hq
    cases hst : stem (fb x).data.toList
    · refine (step_fresh w p.a r x ⟨#[]⟩ (fun w2 => Below wd.heap.size wd w2) (fun w3 => Below wd.heap.size wd w3) (fun w1 h1 => ?_) ?_ (fun w1 h1 => ?_)).mono fun e w' ⟨he, hw⟩ => ⟨he, hrest w' (hbd.trans (hw.mono hbd.size))⟩
      · exact cell_kept (K := fun _ => False) hwd (Only.of_below h1) (fun _ h => h.elim)
      · rw [← hwd]
        exact Fresh_no W wd p U T N x (by omega) hB1.S hst
      · exact (rFresh_no W w1 r v ns x (by omega) (hB1.R.below h1) hst).mono fun e w' ⟨he, hw⟩ => ⟨he, h1.trans (hw.bel.mono h1.size)⟩
    · obtain ⟨B, hBd⟩ : ∃ B, fb x = B := ⟨_, rfl⟩
      rw [hBd] at hst
      have hBz := (stem_size hst).2
      obtain ⟨J, hJ0, hJ1, hJ2, hJ3⟩ := exists_new U B (T B.data.toList)
      have hTN := hB.S.tN B.data.toList
      have hI := hB.I.fresh hj B hJ1 hJ3
      obtain ⟨nm, hnm⟩ : ∃ nm, nm = madeB B ((T B.data.toList + J : Nat) : Int) := ⟨_, rfl⟩
      obtain ⟨T2, hT2⟩ : ∃ T2, T2 = upd T B.data.toList (T B.data.toList + J) := ⟨_, rfl⟩
      have hL : mkL B ((T B.data.toList + J : Nat) : Int) = nm.data.toList := by rw [hnm]; rfl
      rw [hL, ← hnm, ← hT2] at hI
      refine (step_fresh w p.a r x nm (fun w2 => Sup W p (nm.data.toList :: U) T2 (N + J + 1) w2 ∧ Only (utK p) wd w2) (fun w3 => ∃ v', Both W p r v' (ns ++ [nm]) (nm.data.toList :: U) T2 (N + J + 1) (j + 1) w3 ∧ Only (bK p r v) wd w3 ∧ Lies v v' w) (fun w1 h1 => ?_) ?_ (fun w1 h1 => ?_)).mono fun e w' ⟨he, v', h1, h2, h3⟩ => ⟨he, v', _, _, _, _, h1, (Only.of_below hbd).trans h2, h3⟩
      · exact cell_kept hwd h1.2 (fun i hi => (hB.S.lts i (utK_has hi)).2)
      · rw [← hwd, hnm, hT2]
        exact Fresh_yes W wd p U T N x B (by omega) hB1.S hBd (by omega) hst J hJ0 (by omega) (by omega) hJ2 hJ3
      · obtain ⟨hS1, hO1⟩ := h1
        have hR1 := hB1.R.only hO1 (fun i hi => (hB1.S.lts i (utK_has hi)).1) (fun i hi hc => hB.dis i hc (utK_has hi))
        have hnew : hasL ns (madeB B ((T B.data.toList + J : Nat) : Int)) = false := by rw [hasL_eq ns U hB.I.eq]; exact hJ2
        have hold : ∀ i : Nat, 1 ≤ i → i < T B.data.toList + J → hasL ns (madeB B (i : Int)) = true := by
          intro i h1 h2
          rw [hasL_eq ns U hB.I.eq]
          by_cases h3 : i ≤ T B.data.toList
          · exact hB.I.full B i h1 h3
          · have := hJ3 (i - T B.data.toList) (by omega) (by omega)
            rw [show T B.data.toList + (i - T B.data.toList) = i from by omega] at this
            exact this
        rw [hnm]
        refine (rFresh_yes W w1 r v ns x B (by omega) (by omega) hR1 hBd (by omega) hst (T B.data.toList + J) (by omega) (by omega) hnew hold).mono fun e w' ⟨he, v', hR2, hO2, hl⟩ => ?_
        rw [← hnm] at hR2 he ⊢
        have hl' : Lies v v' w := hl.imp id (fun ⟨g, hg, hgs⟩ => ⟨g, hg, Nat.le_trans (Nat.le_trans hbd.size hO1.size) hgs⟩)
        exact ⟨he, v', ⟨hS1.only hO2 (fun i hi => (hR1.lts i hi).1) (fun i hi hc => hB.dis i hi hc), hR2, hI, dis_next hB.dis hl' (fun i hi => (hB.S.lts i hi).2)⟩,
          (hO1.wide (fun i hi => .inl (utK_has hi))).trans (hO2.wide (fun i hi => .inr hi)), hl'⟩
  · cases hu : U.contains x.data.toList
    · have hh : hasL ns x = false := by rw [hasL_eq ns U hB.I.eq]; exact hu
      refine (step_take w p.a r q hq x true (fun w2 => Sup W p (x.data.toList :: U) T (N + 1) w2 ∧ Only (· = p.u) wd w2) (fun w3 => ∃ v', Both W p r v' (ns ++ [x]) (x.data.toList :: U) T (N + 1) (j + 1) w3 ∧ Only (bK p r v) wd w3 ∧ Lies v v' w) (fun w1 h1 => ?_) ?_ (fun w1 h1 => ?_)).mono fun e w' ⟨he, v', h1, h2, h3⟩ => ⟨he, v', _, _, _, _, h1, (Only.of_below hbd).trans h2, h3⟩
      · exact cell_kept hwd h1.2 (fun i hi => (hB.S.lts i (.inr (.inl hi))).2)
      · rw [← hwd]
        exact Take_yes W wd p U T N x (by omega) hB1.S (by omega) hu
      · obtain ⟨hS1, hO1⟩ := h1
        have hR1 := hB1.R.only hO1 (fun i hi => (hB1.S.lts i (.inr (.inl hi))).1) (fun i hi hc => hB.dis i hc (.inr (.inl hi)))
        refine (rTake_yes W w1 r v ns x (by omega) hR1 hh).mono fun e w' ⟨he, v', hR2, hO2, hl⟩ => ?_
        have hl' : Lies v v' w := hl.imp id (fun hg => ⟨_, hg, by have := hbd.size; have := hO1.size; omega⟩)
        exact ⟨he, v', ⟨hS1.only hO2 (fun i hi => (hR1.lts i hi).1) (fun i hi hc => hB.dis i hi hc), hR2, hB.I.take x, dis_next hB.dis hl' (fun i hi => (hB.S.lts i hi).2)⟩,
          (hO1.wide (fun i hi => .inl (.inr (.inl hi)))).trans (hO2.wide (fun i hi => .inr hi)), hl'⟩
    · have hh : hasL ns x = true := by rw [hasL_eq ns U hB.I.eq]; exact hu
      refine (step_take w p.a r q hq x false (fun w2 => wd = w2) (fun w3 => wd = w3) (fun w1 h1 => ?_) ?_ (fun w1 h1 => ?_)).mono fun e w' ⟨he, hw⟩ => ⟨he, hrest w' (hw ▸ hbd)⟩
      · exact cell_kept (K := fun _ => False) hwd (h1 ▸ Only.refl _ _) (fun _ h => h.elim)
      · rw [← hwd]
        exact Take_no W wd p U T N x (by omega) hB1.S hu
      · subst h1
        exact rTake_no W wd r v ns x (by omega) hB1.R hh
end Go.Proofs.YtniejaachfhkdaaGreatDoor
