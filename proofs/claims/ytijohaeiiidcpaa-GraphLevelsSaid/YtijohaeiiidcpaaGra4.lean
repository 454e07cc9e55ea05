/-
  PLAIN. The search for components, whole: its measure; the numbers that it gives.
-/
import Derived.Test.YtijohaeiiidcpaaGra3
namespace Go.Proofs.Ytijohaeiiidcpaa
section
variable {G : List (List Nat)} {s : SS}
theorem step_mu (hG : ValidG G) (h : Lt G s) (hp : s.path ≠ []) : mu G (stepS G s) + 1 ≤ mu G s := by
  rcases path_cases s.path with e | ⟨A, u, e⟩
  · exact absurd e hp
  have hend : endS s = u := endS_app e
  have hul : ∀ v, nx G u (gt s.looked u) = some v → u < G.length := fun v he => nx_lt he
  unfold stepS
  rw [hend]
  cases he : nx G u (gt s.looked u) with
  | some v =>
    simp only
    by_cases hv : gt s.place v = 0
    · rw [if_pos hv]
      unfold mu
      show 2 * cz (s.place.set v (s.found + 1)) + rest G s.looked + (s.path ++ [v]).length + 1 ≤ _
      rw [List.length_append, List.length_singleton]
      have hvl : v < s.place.length := by rw [h.lp]; exact hG u _ v he
      have := cz_set hvl hv (v := s.found + 1) (by omega)
      omega
    · rw [if_neg hv]
      unfold mu
      show 2 * cz s.place + rest G (s.looked.set u (gt s.looked u + 1)) + s.path.length + 1 ≤ _
      have := rest_set (G := G) (l := s.looked) h.lk (hul v he) (nx_deg he)
      omega
  | none =>
    simp only
    obtain ⟨e1, e2, e3, e4, e5⟩ := leave_same s u
    unfold mu
    rw [e1, e3, e4, e]
    simp
    omega
theorem run_nil {f : Nat} (hp : s.path = []) : runS G f s = s := by
  cases f with
  | zero => rfl
  | succ f => unfold runS; rw [if_pos hp]
theorem run_step {f : Nat} (hp : s.path ≠ []) : runS G (f + 1) s = runS G f (stepS G s) := by
  conv => lhs; unfold runS
  rw [if_neg hp]
theorem mu_nil (h : mu G s = 0) : s.path = [] := by
  unfold mu at h
  exact List.length_eq_zero_iff.1 (by omega)
/-- A property of found nodes that edges carry on. -/
def Rc (P : Nat → Prop) (s : SS) : Prop := ∀ x, gt s.place x ≠ 0 → P x
theorem step_rc (hG : ValidG G) (h : Lt G s) {P : Nat → Prop} (hP : ∀ x k y, P x → nx G x k = some y → P y) (hr : Rc P s) (hp : s.path ≠ []) : Rc P (stepS G s) ∧ ∀ x, gt s.place x ≠ 0 → gt (stepS G s).place x ≠ 0 := by
  rcases path_cases s.path with e | ⟨A, u, e⟩
  · exact absurd e hp
  have hend : endS s = u := endS_app e
  unfold stepS
  rw [hend]
  cases he : nx G u (gt s.looked u) with
  | some v =>
    simp only
    by_cases hv : gt s.place v = 0
    · rw [if_pos hv]
      have hvl : v < s.place.length := by rw [h.lp]; exact hG u _ v he
      have hpl : ∀ x, gt (enterS s v).place x = if x = v then s.found + 1 else gt s.place x := fun x => gt_set hvl _ _
      refine ⟨fun x hx => ?_, fun x hx => ?_⟩
      · rw [hpl] at hx
        by_cases ev : x = v
        · rw [ev]
          exact hP u _ v (hr u (h.opo u (h.pin (by rw [e]; simp))).1) he
        · rw [if_neg ev] at hx; exact hr x hx
      · rw [hpl]
        split
        · omega
        · exact hx
    · rw [if_neg hv]; exact ⟨hr, fun x hx => hx⟩
  | none =>
    simp only
    unfold Rc
    rw [(leave_same s u).1]
    exact ⟨hr, fun x hx => hx⟩
theorem run_all (hG : ValidG G) {P : Nat → Prop} (hP : ∀ x k y, P x → nx G x k = some y → P y) : ∀ (f : Nat) {s : SS}, Jn G s → Rc P s → mu G s ≤ f → Jn G (runS G f s) ∧ Rc P (runS G f s) ∧ (runS G f s).path = [] ∧ ∀ x, gt s.place x ≠ 0 → gt (runS G f s).place x ≠ 0
  | 0, s, h, hr, hm => ⟨h, hr, mu_nil (G := G) (Nat.le_zero.1 hm), fun _ hx => hx⟩
  | f + 1, s, h, hr, hm => by
    by_cases hp : s.path = []
    · rw [run_nil hp]; exact ⟨h, hr, hp, fun _ hx => hx⟩
    · rw [run_step hp]
      have h1 := step_mu hG h.lt hp
      have h2 := step_rc hG h.lt hP hr hp
      have h3 := run_all hG hP f (step_jn hG h hp) h2.1 (by omega)
      exact ⟨h3.1, h3.2.1, h3.2.2.1, fun x hx => h3.2.2.2 x (h2.2 x hx)⟩
theorem cz_le (l : List Nat) : cz l ≤ l.length := List.countP_le_length
theorem start_mu (h : Lt G s) (hp : s.path = []) {v : Nat} (hv : v < G.length) : mu G (if gt s.place v = 0 then enterS s v else s) ≤ fuelG G := by
  have h1 := rest_le G s.looked
  have h2 := cz_le s.place
  rw [h.lp] at h2
  split
  · rename_i h0
    unfold mu fuelG
    show 2 * cz (s.place.set v (s.found + 1)) + rest G s.looked + (s.path ++ [v]).length ≤ _
    have := cz_set (by rw [h.lp]; exact hv) h0 (v := s.found + 1) (by omega)
    rw [hp]
    simp
    omega
  · unfold mu fuelG
    rw [hp]
    simp
    omega
theorem start_all (hG : ValidG G) {P : Nat → Prop} (hP : ∀ x k y, P x → nx G x k = some y → P y) (h : Fu G s) (hr : Rc P s) (hp : s.path = []) {v : Nat} (hv : v < G.length) (hPv : P v) : Fu G (startS G s v) ∧ Rc P (startS G s v) ∧ (startS G s v).path = [] ∧ (∀ x, gt s.place x ≠ 0 → gt (startS G s v).place x ≠ 0) ∧ gt (startS G s v).place v ≠ 0 := by
  have hm := start_mu h.lt hp hv
  have hJ : Jn G (if gt s.place v = 0 then enterS s v else s) := by
    split
    · rename_i h0; exact .inl (enter_fu h hv h0 (.inl hp))
    · exact .inl h
  have hvl : v < s.place.length := by rw [h.lt.lp]; exact hv
  have hpl : ∀ x, gt (enterS s v).place x = if x = v then s.found + 1 else gt s.place x := fun x => gt_set hvl _ _
  have hR : Rc P (if gt s.place v = 0 then enterS s v else s) := by
    split
    · intro x hx
      rw [hpl] at hx
      by_cases e : x = v
      · rw [e]; exact hPv
      · rw [if_neg e] at hx; exact hr x hx
    · exact hr
  obtain ⟨h1, h2, h3, h4⟩ := run_all hG hP (fuelG G) hJ hR hm
  refine ⟨h1.fu h3, h2, h3, fun x hx => h4 x ?_, h4 v ?_⟩
  · split
    · rw [hpl]
      split
      · omega
      · exact hx
    · exact hx
  · split
    · rw [hpl, if_pos rfl]; omega
    · rename_i h0; exact h0
theorem starts_all (hG : ValidG G) {P : Nat → Prop} (hP : ∀ x k y, P x → nx G x k = some y → P y) : ∀ (l : List Nat) {s : SS}, Fu G s → Rc P s → s.path = [] → (∀ v ∈ l, v < G.length ∧ P v) →
    Fu G (l.foldl (startS G) s) ∧ Rc P (l.foldl (startS G) s) ∧ (l.foldl (startS G) s).path = [] ∧ (∀ x, gt s.place x ≠ 0 → gt (l.foldl (startS G) s).place x ≠ 0) ∧ ∀ v ∈ l, gt (l.foldl (startS G) s).place v ≠ 0
  | [], s, h, hr, hp, _ => ⟨h, hr, hp, fun _ hx => hx, fun _ hv => absurd hv List.not_mem_nil⟩
  | v :: l, s, h, hr, hp, hl => by
    have hv := hl v (List.mem_cons_self ..)
    obtain ⟨h1, h2, h3, h4, h5⟩ := start_all hG hP h hr hp hv.1 hv.2
    obtain ⟨g1, g2, g3, g4, g5⟩ := starts_all hG hP l h1 h2 h3 (fun u hu => hl u (List.mem_cons_of_mem _ hu))
    refine ⟨g1, g2, g3, fun x hx => g4 x (h4 x hx), fun u hu => ?_⟩
    rcases List.mem_cons.1 hu with rfl | hu
    · exact g4 _ h5
    · exact g5 u hu
/-- The numbers. -/
structure Nums (G : List (List Nat)) (starts N : List Nat) : Prop where
  len : N.length = G.length
  down : ∀ x k y, gt N x ≠ 0 → nx G x k = some y → gt N y ≠ 0 ∧ gt N y ≤ gt N x
  same : ∀ x y, gt N x ≠ 0 → gt N x = gt N y → Re G x y
  all : ∀ v ∈ starts, gt N v ≠ 0
  fro : ∀ x, gt N x ≠ 0 → ∃ v ∈ starts, Re G v x
  bnd : ∀ x, gt N x ≤ G.length
theorem nums_ok (hG : ValidG G) (l : List Nat) (hl : ∀ v ∈ l, v < G.length) : Nums G l (numbersS G l) := by
  obtain ⟨h1, h2, h3, -, h5⟩ := starts_all hG (P := fun x => ∃ v ∈ l, Re G v x) (fun x k y ⟨v, hv, hr⟩ e => ⟨v, hv, hr.step e⟩) l (s0_fu G) (fun x hx => absurd (zget _ x) hx) rfl (fun v hv => ⟨hl v hv, v, hv, Re.refl v⟩)
  have hop : (l.foldl (startS G) (s0S G.length)).opn = [] := by
    cases ho : (l.foldl (startS G) (s0S G.length)).opn with
    | nil => rfl
    | cons x r =>
      obtain ⟨p, hp, -⟩ := h1.own x (by rw [ho]; simp)
      rw [h3] at hp
      exact absurd hp List.not_mem_nil
  refine ⟨h1.lt.ln, h1.cls, h1.same, fun v hv => ?_, fun x hx => h2 x (h1.lt.nbp x hx), fun x => ?_⟩
  · intro hn
    have := h1.lt.opf v (h5 v hv) hn
    rw [hop] at this
    exact absurd this List.not_mem_nil
  · have h6 := h1.lt.nbl x
    have h7 := h1.lt.lst
    have h8 := h1.lt.fnd
    show gt (l.foldl (startS G) (s0S G.length)).number x ≤ _
    omega
theorem Nums.re {starts N : List Nat} (h : Nums G starts N) {x y : Nat} (hr : Re G x y) (hx : gt N x ≠ 0) : gt N y ≠ 0 ∧ gt N y ≤ gt N x := by
  induction hr with
  | refl => exact ⟨hx, Nat.le_refl _⟩
  | step _ e ih =>
    have := h.down _ _ _ ih.1 e
    exact ⟨this.1, Nat.le_trans this.2 ih.2⟩
/-- Two nodes have the same number if and only if each reaches the other. -/
theorem Nums.iff {starts N : List Nat} (h : Nums G starts N) {x y : Nat} (hx : gt N x ≠ 0) : gt N x = gt N y ↔ Re G x y ∧ Re G y x := by
  constructor
  · intro e
    exact ⟨h.same x y hx e, h.same y x (e ▸ hx) e.symm⟩
  · rintro ⟨h1, h2⟩
    have h3 := h.re h1 hx
    have h4 := h.re h2 h3.1
    omega
theorem Nums.reach {starts N : List Nat} (h : Nums G starts N) (x : Nat) : gt N x ≠ 0 ↔ ∃ v ∈ starts, Re G v x :=
  ⟨h.fro x, fun ⟨v, hv, hr⟩ => (h.re hr (h.all v hv)).1⟩
end
end Go.Proofs.Ytijohaeiiidcpaa
