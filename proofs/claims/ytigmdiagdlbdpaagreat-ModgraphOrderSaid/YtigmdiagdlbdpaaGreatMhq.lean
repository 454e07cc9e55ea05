/-
  PLAIN. The reference's search for a shortest cycle finds the program's.
  WALKS. The reference: Names, consistent.
-/
import Derived.Test.YtigmdiagdlbdpaaGreatMge
import Derived.Test.YtigmdiagdlbdpaaGreatMhj
import Derived.Test.YtigmdiagdlbdpaaGreatMgn
namespace Go.Proofs.YtigmdiagdlbdpaaGreat
/-- The first answer that is not empty. -/
def firstF {α β : Type} (g : α → List β) : List α → List β
  | [] => []
  | x :: r => if g x ≠ [] then g x else firstF g r
theorem firstF_nil {α β : Type} {g : α → List β} : ∀ {l : List α}, (∀ x ∈ l, g x = []) → firstF g l = []
  | [], _ => rfl
  | x :: r, h => by
    unfold firstF
    rw [if_neg (by simp [h x (List.mem_cons_self ..)])]
    exact firstF_nil (fun y hy => h y (List.mem_cons_of_mem _ hy))
theorem firstF_ex {α β : Type} {g : α → List β} : ∀ {l : List α}, firstF g l ≠ [] → ∃ x ∈ l, g x ≠ []
  | [], h => absurd rfl h
  | x :: r, h => by
    by_cases e : g x ≠ []
    · exact ⟨x, List.mem_cons_self .., e⟩
    · unfold firstF at h
      rw [if_neg e] at h
      obtain ⟨y, hy, e2⟩ := firstF_ex h
      exact ⟨y, List.mem_cons_of_mem _ hy, e2⟩
theorem firstF_at {α β : Type} {g : α → List β} {l2 : List α} {x : α} (hx : g x ≠ []) : ∀ {l1 : List α}, (∀ y ∈ l1, g y = []) → firstF g (l1 ++ x :: l2) = g x
  | [], _ => by
    show (if g x ≠ [] then g x else _) = _
    rw [if_pos hx]
  | y :: r, h => by
    show (if g y ≠ [] then g y else firstF g (r ++ x :: l2)) = _
    rw [if_neg (by simp [h y (List.mem_cons_self ..)])]
    exact firstF_at hx (fun z hz => h z (List.mem_cons_of_mem _ hz))
/-- Does the reference go on to x from a path of m nodes? -/
def goOn (G : List (List Nat)) (s n : Nat) (p : List Nat) (x : Nat) : Bool := !p.contains x && decide (gt (disG G s) x ≤ n - p.length)
def pathsF (G : List (List Nat)) (s n : Nat) : Nat → List Nat → List Nat
  | 0, _ => []
  | f + 1, p => if s ∈ lAt G (lastN p) then p else if p.length < n then firstF (fun x => if goOn G s n p x then pathsF G s n f (p ++ [x]) else []) (lAt G (lastN p)) else []
theorem pathsF_sound {G : List (List Nat)} {s n : Nat} : ∀ (f : Nat) (p : List Nat), 0 < p.length → p.length ≤ n → Pth G s (p.length - 1) (lastN p) → pathsF G s n f p ≠ [] → ∃ k, 0 < k ∧ k ≤ n ∧ Pth G s k s
  | 0, _, _, _, _, h => absurd rfl h
  | f + 1, p, h0, hn, hp, h => by
    unfold pathsF at h
    by_cases e : s ∈ lAt G (lastN p)
    · exact ⟨p.length, h0, hn, by have := hp.snoc e; rwa [show p.length - 1 + 1 = p.length by omega] at this⟩
    · rw [if_neg e] at h
      by_cases hl : p.length < n
      · rw [if_pos hl] at h
        obtain ⟨x, hx, h2⟩ := firstF_ex h
        by_cases hg : goOn G s n p x = true
        · rw [if_pos hg] at h2
          refine pathsF_sound f (p ++ [x]) (by simp) (by rw [List.length_append]; simp; omega) ?_ h2
          rw [lastN_app, List.length_append]
          have := hp.snoc hx
          simp
          rwa [show p.length - 1 + 1 = p.length by omega] at this
        · rw [if_neg hg] at h2
          exact absurd rfl h2
      · rw [if_neg hl] at h
        exact absurd rfl h
theorem minS_keep {a : List Nat} : ∀ {l : List Nat} {m : Nat}, (∀ v ∈ l, gt a m ≤ gt a v) → l.foldl (minS a) m = m
  | [], _, _ => rfl
  | x :: r, m, h => by
    have e : minS a m x = m := by
      unfold minS
      rw [if_neg (by have := h x (List.mem_cons_self ..); omega)]
    rw [List.foldl_cons, e]
    exact minS_keep (fun v hv => h v (List.mem_cons_of_mem _ hv))
theorem minS_find {a : List Nat} {x : Nat} {l2 : List Nat} : ∀ {l1 : List Nat} {m : Nat}, gt a x < gt a m → (∀ v ∈ l1, gt a x < gt a v) → (∀ v ∈ l2, gt a x ≤ gt a v) → (l1 ++ x :: l2).foldl (minS a) m = x
  | [], m, hm, _, h2 => by
    have e : minS a m x = x := by unfold minS; rw [if_pos hm]
    show (x :: l2).foldl (minS a) m = x
    rw [List.foldl_cons, e]
    exact minS_keep h2
  | y :: r, m, hm, h1, h2 => by
    show (r ++ x :: l2).foldl (minS a) (minS a m y) = x
    refine minS_find ?_ (fun v hv => h1 v (List.mem_cons_of_mem _ hv)) h2
    unfold minS
    split
    · exact h1 y (List.mem_cons_self ..)
    · exact hm
/-- The first of the nearest. -/
theorem minF_first {a : List Nat} {x : Nat} {l1 l2 : List Nat} (h1 : ∀ v ∈ l1, gt a x < gt a v) (h2 : ∀ v ∈ l2, gt a x ≤ gt a v) : minF a (l1 ++ x :: l2) = x := by
  cases l1 with
  | nil => exact minS_keep h2
  | cons y r => exact minS_find (h1 y (List.mem_cons_self ..)) (fun v hv => h1 v (List.mem_cons_of_mem _ hv)) h2
/-- A list's first element with a property. -/
theorem first_split {P : Nat → Prop} [DecidablePred P] : ∀ {l : List Nat}, (∃ x ∈ l, P x) → ∃ l1 x l2, l = l1 ++ x :: l2 ∧ P x ∧ ∀ v ∈ l1, ¬ P v
  | [], h => by obtain ⟨x, hx, _⟩ := h; cases hx
  | y :: r, h => by
    by_cases e : P y
    · exact ⟨[], y, r, rfl, e, fun v hv => by cases hv⟩
    · obtain ⟨x, hx, hp⟩ := h
      rcases List.mem_cons.1 hx with rfl | hx
      · exact absurd hp e
      · obtain ⟨l1, z, l2, e1, e2, e3⟩ := first_split ⟨x, hx, hp⟩
        refine ⟨y :: l1, z, l2, by rw [e1]; rfl, e2, fun v hv => ?_⟩
        rcases List.mem_cons.1 hv with rfl | hv
        · exact e
        · exact e3 v hv
/-- What the reference's path is: it begins with s, follows the edges. -/
structure PI (G : List (List Nat)) (s : Nat) (p : List Nat) : Prop where
  ne : 0 < p.length
  hd : gt p 0 = s
  lt : ∀ i, i < p.length → gt p i < G.length
  way : ∀ i j, i ≤ j → j < p.length → Pth G (gt p i) (j - i) (gt p j)
theorem PI.one {G : List (List Nat)} {s : Nat} (hs : s < G.length) : PI G s [s] :=
  ⟨Nat.one_pos, rfl, fun i hi => by have e : i = 0 := by simp at hi; omega
                                    subst e; exact hs, fun i j hij hj => by
    have e : j = 0 := by simp at hj; omega
    subst e
    have e : i = 0 := by omega
    subst e
    exact .nil _⟩
theorem PI.push {G : List (List Nat)} (hG : ValidG G) {s : Nat} {p : List Nat} (h : PI G s p) {x : Nat} (hx : x ∈ lAt G (lastN p)) : PI G s (p ++ [x]) := by
  have hne := h.ne
  have hlen : (p ++ [x]).length = p.length + 1 := by simp
  refine ⟨by omega, by rw [gt_left hne]; exact h.hd, fun i hi => ?_, fun i j hij hj => ?_⟩
  · by_cases e : i = p.length
    · rw [e, gt_last]; exact row_valid hG hx
    · rw [gt_left (by omega)]; exact h.lt i (by omega)
  · by_cases e : j = p.length
    · by_cases e2 : i = p.length
      · rw [e, e2, Nat.sub_self]; exact .nil _
      · rw [e, gt_last, gt_left (by omega)]
        have h1 := h.way i (p.length - 1) (by omega) (by omega)
        rw [← lastN_gt hne] at h1
        have h2 := h1.snoc hx
        rwa [show p.length - 1 - i + 1 = p.length - i by omega] at h2
    · rw [gt_left (by omega), gt_left (by omega)]
      exact h.way i j hij (by omega)
/-- Where no cycle is shorter than n, the reference follows the program's choice. -/
theorem pathsF_greedy {G : List (List Nat)} (hG : ValidG G) {s n : Nat} (hs : s < G.length) (hnG : n ≤ G.length) (hmin : ∀ x k, 0 < k → Pth G x k x → n ≤ k) : ∀ (d f f' : Nat) (p : List Nat), PI G s p → p.length + d = n → Pth G (lastN p) (d + 1) s → d < f → d < f' →
    pathsF G s n f p = cycF G (disG G s) s f' p ∧ pathsF G s n f p ≠ []
  | d, 0, _, _, _, _, _, hf, _ => absurd hf (Nat.not_lt_zero _)
  | d, _ + 1, 0, _, _, _, _, _, hf => absurd hf (Nat.not_lt_zero _)
  | d, f + 1, f' + 1, p, hP, hd, hway, hf, hf' => by
    have hD := disG_f hG hs
    have hne := hP.ne
    have hpne : p ≠ [] := fun e => by rw [e] at hne; exact absurd hne (Nat.lt_irrefl _)
    have hlast : lastN p < G.length := by rw [lastN_gt hne]; exact hP.lt _ (by omega)
    have hfrom : Pth G s (p.length - 1) (lastN p) := by
      have := hP.way 0 (p.length - 1) (by omega) (by omega)
      rwa [hP.hd, ← lastN_gt hne, Nat.sub_zero] at this
    unfold pathsF cycF
    by_cases e : s ∈ lAt G (lastN p)
    · have hm : minF (disG G s) (lAt G (lastN p)) = s := by
        have h1 := minF_le (a := disG G s) e
        rw [hD.tgt] at h1
        have h2 := minF_mem (a := disG G s) (List.ne_nil_of_mem e)
        exact hD.zero hs (row_valid hG h2) (by omega)
      rw [if_pos e, if_pos hm]
      exact ⟨rfl, hpne⟩
    · cases d with
      | zero =>
        exfalso
        cases hway with
        | cons e1 h1 =>
          cases h1
          exact e e1
      | succ d =>
        -- every successor is at least d + 1 away
        have hfar : ∀ x ∈ lAt G (lastN p), d + 1 ≤ gt (disG G s) x := fun x hx => by
          apply Nat.le_of_not_lt
          intro hlt
          have h1 := hD.pth x (row_valid hG hx) (by omega)
          have h2 := (hfrom.snoc hx).join h1
          have h3 := hmin s _ (by omega) h2
          omega
        have hex : ∃ x ∈ lAt G (lastN p), gt (disG G s) x ≤ d + 1 := by
          cases hway with
          | cons e1 h1 => exact ⟨_, e1, hD.short _ _ (row_valid hG e1) h1⟩
        obtain ⟨l1, x, l2, hl, hx, hno⟩ := first_split hex
        have hxm : x ∈ lAt G (lastN p) := by rw [hl]; exact List.mem_append_right _ (List.mem_cons_self ..)
        have hxe : gt (disG G s) x = d + 1 := Nat.le_antisymm hx (hfar x hxm)
        have hmf : minF (disG G s) (lAt G (lastN p)) = x := by
          rw [hl]
          refine minF_first (fun v hv => ?_) (fun v hv => ?_)
          · have := hno v hv
            omega
          · have := hfar v (by rw [hl]; exact List.mem_append_right _ (List.mem_cons_of_mem _ hv))
            omega
        have hxs : x ≠ s := fun hc => e (by rw [← hc]; exact hxm)
        have hxp : x ∉ p := fun hc => by
          obtain ⟨j, hj, ej⟩ := List.getElem_of_mem hc
          have ej' : gt p j = x := by rw [gt_at hj]; exact ej
          have hj0 : j ≠ 0 := fun h0 => hxs (by rw [← ej', h0]; exact hP.hd)
          have h1 := hP.way j (p.length - 1) (by omega) (by omega)
          rw [← lastN_gt hne, ej'] at h1
          have h2 := hmin x _ (by omega) (h1.snoc hxm)
          omega
        have hgo : goOn G s n p x = true := by
          unfold goOn
          simp [hxp]
          omega
        have hIH := pathsF_greedy hG hs hnG hmin d f f' (p ++ [x]) (hP.push hG hxm) (by rw [List.length_append]; simp; omega) (by rw [lastN_app]; have := hD.pth x (row_valid hG hxm) (by omega); rwa [hxe] at this) (by omega) (by omega)
        have hfirst : firstF (fun x => if goOn G s n p x then pathsF G s n f (p ++ [x]) else []) (lAt G (lastN p)) = pathsF G s n f (p ++ [x]) := by
          rw [hl]
          rw [firstF_at (g := fun x => if goOn G s n p x then pathsF G s n f (p ++ [x]) else []) (x := x) (by rw [if_pos hgo]; exact hIH.2) (fun y hy => ?_), if_pos hgo]
          have hny : goOn G s n p y = false := by
            unfold goOn
            have := hno y hy
            simp
            intro _
            omega
          simp [hny]
        rw [if_neg e, if_pos (by omega), hfirst, hmf, if_neg hxs]
        exact hIH
/-- The length of the program's cycle through s is the shortest. -/
theorem cycF_pre {G : List (List Nat)} {a : List Nat} {s : Nat} : ∀ (f : Nat) (c : List Nat), ∃ t, cycF G a s f c = c ++ t
  | 0, c => ⟨[], by rw [List.append_nil]; rfl⟩
  | f + 1, c => by
    unfold cycF
    split
    · exact ⟨[], by rw [List.append_nil]⟩
    · obtain ⟨t, e⟩ := cycF_pre (a := a) (s := s) f (c ++ [minF a (lAt G (lastN c))])
      exact ⟨_, by rw [e, List.append_assoc]⟩
theorem cycG_len {G : List (List Nat)} (hG : ValidG G) {s : Nat} (hs : s < G.length) (ho : Onc G s) : Pth G s (cycG G s).length s ∧ (∀ k, 0 < k → Pth G s k s → (cycG G s).length ≤ k) ∧ 0 < (cycG G s).length ∧ (cycG G s).length ≤ G.length := by
  have hD := disG_f hG hs
  obtain ⟨h1, h2⟩ := cycF_spec hG hD hs ho (G.length + 1) [s] (CyI.one hs) (by simp)
  have h3 := (h1.next hG hD hs ho).2.1
  rw [h2] at h3
  have h1' : CyI G (disG G s) s (cycG G s) := h1
  have h3' : s ∈ lAt G (lastN (cycG G s)) := h3
  obtain ⟨c, hc⟩ : ∃ c, cycG G s = c := ⟨_, rfl⟩
  have hhd := cycF_pre (G := G) (a := disG G s) (s := s) G.length ([s] ++ [minF (disG G s) (lAt G (lastN [s]))])
  have hun : cycG G s = if minF (disG G s) (lAt G (lastN [s])) = s then [s] else cycF G (disG G s) s G.length ([s] ++ [minF (disG G s) (lAt G (lastN [s]))]) := rfl
  have hls : lastN [s] = s := rfl
  rw [hls] at hhd hun
  rw [hc] at h1' h3' hun ⊢
  have hway : ∀ i, i < c.length → Pth G s i (gt c i) := by
    intro i
    induction i with
    | zero => intro _; rw [h1'.hd]; exact .nil _
    | succ i ih => intro hi; exact (ih (by omega)).snoc (h1'.edge i hi)
  have hne := h1'.ne
  have hcl : Pth G s c.length s := by
    have := (hway (c.length - 1) (by omega)).snoc (by rw [← lastN_gt hne]; exact h3')
    rwa [show c.length - 1 + 1 = c.length by omega] at this
  refine ⟨hcl, fun k hk hp => ?_, hne, h1'.short⟩
  by_cases e : minF (disG G s) (lAt G s) = s
  · rw [if_pos e] at hun
    rw [hun]
    exact hk
  · rw [if_neg e] at hun
    obtain ⟨t, ht⟩ := hhd
    rw [ht] at hun
    have hc1 : gt c 1 = minF (disG G s) (lAt G s) := by rw [hun]; rfl
    have hl2 : 1 < c.length := by rw [hun]; simp
    cases k with
    | zero => exact absurd hk (Nat.lt_irrefl _)
    | succ k =>
      cases hp with
      | cons e1 hp1 =>
        have h4 := hD.short _ _ (row_valid hG e1) hp1
        have h5 := minF_le (a := disG G s) e1
        have h6 := h1'.sum (c.length - 1) (by omega) (by omega)
        have h7 := hD.short (lastN c) 1 (by rw [lastN_gt hne]; exact h1'.lt _ (by omega)) (.cons h3' (.nil _))
        rw [lastN_gt hne] at h7
        have h8 := (h1'.pos (c.length - 1) (by omega) (by omega)).1
        rw [hc1] at h6
        omega
/-- Which of the cycles the program takes. -/
theorem cycS_best {G : List (List Nat)} (hG : ValidG G) {P : Nat → Bool} (hP : ∀ k, k < G.length → (P k = true ↔ Onc G k)) : ∀ k, k ≤ G.length → cycS G P k ≠ [] → ∃ s, s < k ∧ P s = true ∧ cycS G P k = cycG G s ∧ (∀ j, j < k → P j = true → (cycG G s).length ≤ (cycG G j).length) ∧ ∀ j, j < s → P j = true → (cycG G s).length < (cycG G j).length
  | 0, _, h => absurd rfl h
  | k + 1, hk, h => by
    obtain ⟨hnil, -⟩ := cycS_spec hG hP k (by omega)
    unfold cycS at h ⊢
    cases hp : P k with
    | false =>
      rw [hp] at h
      simp only [Bool.false_eq_true, if_false] at h ⊢
      obtain ⟨s, h1, h2, h3, h4, h5⟩ := cycS_best hG hP k (by omega) h
      refine ⟨s, by omega, h2, h3, fun j hj hpj => ?_, h5⟩
      by_cases e : j = k
      · rw [e, hp] at hpj; cases hpj
      · exact h4 j (by omega) hpj
    | true =>
      rw [hp] at h
      simp only [if_true] at h ⊢
      by_cases e : cycS G P k = []
      · rw [if_pos (.inl e)]
        have hall := hnil.1 e
        refine ⟨k, by omega, hp, rfl, fun j hj hpj => ?_, fun j hj hpj => ?_⟩
        · by_cases e2 : j = k
          · rw [e2]; exact Nat.le_refl _
          · rw [hall j (by omega)] at hpj; cases hpj
        · rw [hall j hj] at hpj; cases hpj
      · obtain ⟨s, h1, h2, h3, h4, h5⟩ := cycS_best hG hP k (by omega) e
        by_cases e3 : (cycG G k).length < (cycS G P k).length
        · rw [if_pos (.inr e3)]
          rw [h3] at e3
          refine ⟨k, by omega, hp, rfl, fun j hj hpj => ?_, fun j hj hpj => ?_⟩
          · by_cases e2 : j = k
            · rw [e2]; exact Nat.le_refl _
            · have := h4 j (by omega) hpj; omega
          · have := h4 j hj hpj; omega
        · rw [if_neg (fun hc => hc.elim e e3)]
          rw [h3] at e3
          refine ⟨s, by omega, h2, h3, fun j hj hpj => ?_, h5⟩
          by_cases e2 : j = k
          · rw [e2]; omega
          · exact h4 j (by omega) hpj
/-- The reference: for each length, from each start. -/
def refC (G : List (List Nat)) : List Nat := firstF (fun n => firstF (fun s => pathsF G s (n + 1) (n + 1) [s]) (List.range G.length)) (List.range G.length)
theorem pth_onc {G : List (List Nat)} {s k : Nat} (hk : 0 < k) (h : Pth G s k s) : Onc G s := by
  cases k with
  | zero => exact absurd hk (Nat.lt_irrefl _)
  | succ k =>
    cases h with
    | cons e h1 => exact ⟨_, e, h1.re⟩
theorem range_split {n i : Nat} (h : i < n) : ∃ l2, List.range n = List.range i ++ i :: l2 := by
  refine ⟨(List.range (n - i - 1)).map (fun x => i + 1 + x), ?_⟩
  have e : n = i + (1 + (n - i - 1)) := by omega
  conv => lhs; rw [e, List.range_add, List.range_add]
  simp [List.range_succ, List.map_map, Function.comp_def, Nat.add_assoc]
theorem refC_eq {G : List (List Nat)} (hG : ValidG G) : refC G = cyP G := by
  have hP : ∀ k, k < G.length → (cyB G k = true ↔ Onc G k) := fun k hk => cyB_iff hG hk
  have hsnd : ∀ s n, s < G.length → pathsF G s (n + 1) (n + 1) [s] ≠ [] → Onc G s ∧ (cycG G s).length ≤ n + 1 := fun s n hs h => by
    obtain ⟨k, h1, h2, h3⟩ := pathsF_sound (n + 1) [s] Nat.one_pos (by simp) (.nil _) h
    have ho := pth_onc h1 h3
    exact ⟨ho, Nat.le_trans ((cycG_len hG hs ho).2.1 k h1 h3) h2⟩
  by_cases hc : cyP G = []
  · rw [hc]
    have hno := (cyP_nil hG).1 hc
    exact firstF_nil (fun n _ => firstF_nil (fun s hs => Classical.byContradiction fun hne => hno s (List.mem_range.1 hs) (hsnd s n (List.mem_range.1 hs) hne).1))
  · obtain ⟨s, h1, h2, h3, h4, h5⟩ := cycS_best hG hP G.length (Nat.le_refl _) hc
    have ho := (hP s h1).1 h2
    obtain ⟨c1, c2, c3, c4⟩ := cycG_len hG h1 ho
    obtain ⟨m, hm⟩ : ∃ m, (cycG G s).length = m + 1 := ⟨(cycG G s).length - 1, by omega⟩
    have hmin : ∀ x k, 0 < k → Pth G x k x → m + 1 ≤ k := fun x k hk hp => by
      have hx : x < G.length := by
        cases k with
        | zero => exact absurd hk (Nat.lt_irrefl _)
        | succ k =>
          cases hp with
          | cons e _ =>
            obtain ⟨j, hj⟩ := nx_mem.2 e
            exact nx_lt hj
      have ho' := pth_onc hk hp
      have := h4 x hx ((hP x hx).2 ho')
      have := (cycG_len hG hx ho').2.1 k hk hp
      omega
    have hgr := pathsF_greedy hG h1 (n := m + 1) (by omega) hmin m (m + 1) (G.length + 1) [s] (PI.one h1) (by simp; omega) (by rw [← hm]; exact c1) (by omega) (by omega)
    have hin : firstF (fun s => pathsF G s (m + 1) (m + 1) [s]) (List.range G.length) = cycG G s := by
      obtain ⟨l2, hl2⟩ := range_split h1
      rw [hl2, firstF_at (g := fun s => pathsF G s (m + 1) (m + 1) [s]) hgr.2 (fun y hy => ?_)]
      · exact hgr.1
      · have hy' := List.mem_range.1 hy
        exact Classical.byContradiction fun hne => by
          obtain ⟨q1, q2⟩ := hsnd y m (by omega) hne
          have := h5 y hy' ((hP y (by omega)).2 q1)
          omega
    have hcyc : cyP G = cycG G s := h3
    rw [hcyc]
    unfold refC
    obtain ⟨l2, hl2⟩ := range_split (show m < G.length by omega)
    obtain ⟨g, hg⟩ : ∃ g, g = fun n => firstF (fun s => pathsF G s (n + 1) (n + 1) [s]) (List.range G.length) := ⟨_, rfl⟩
    have hgm : g m = cycG G s := by rw [hg]; exact hin
    rw [← hg, hl2, firstF_at (g := g) (x := m) ?_ (fun y hy => ?_)]
    · exact hgm
    · rw [hgm]
      exact fun e => by rw [e] at c3; exact absurd c3 (Nat.lt_irrefl _)
    · have hy' := List.mem_range.1 hy
      rw [hg]
      exact firstF_nil (fun x hx => Classical.byContradiction fun hne => by
        have hx' := List.mem_range.1 hx
        obtain ⟨q1, q2⟩ := hsnd x y hx' hne
        have := h4 x hx' ((hP x hx').2 q1)
        omega)
end Go.Proofs.YtigmdiagdlbdpaaGreat
namespace Go.Proofs.YtigmdiagdlbdpaaGreat
open Go.RowKit Go.Maps
theorem names_eq {l : List Md} (hd : (l.map Md.nm).Nodup) : (l.map Md.nm).foldl insP [] = nsP l := sorted_ext (foldIns_sorted _ _ List.Pairwise.nil) (nsP_sorted hd) (fun t => by rw [foldNm_mem, nsP_mem])
set_option maxRecDepth 100000 in
set_option maxHeartbeats 4000000 in
theorem rNames_p (w : World) (oa : Option Addr) (n ca : Nat) (l : List Md) (h : Mdz w oa n l) (hn : n ≤ 1000) (hd : (l.map Md.nm).Nodup) : Calls Tryz.prog 29 #[.slice oa n ca] w fun e w' => ∃ oo co, e = .returned (.slice oo n co) ∧ SR w' w.heap.size (.slice oo n co) (nsP l) ∧ Only (fun _ => False) w w' := by
  have hl := h.len
  have HL := Lib.hid h
  have HNM := Lib.hid (names_eq hd)
  have HNL := Lib.hid (show (nsP l).length = n by rw [nsP_len]; exact hl)
  clear h hd
  go_enter Tryz.func29, Tryz.ntmps29
  go_wp2
  go_loopw [3, 4] (fun v q wr => ∃ (i : Nat) (o : List Nm), i ≤ n ∧ q = .int .i64 i ∧ SR wr w.heap.size v o ∧ Hid (((l.drop i).map Md.nm).foldl insP o = nsP l) ∧ o.length ≤ i ∧ Only (w.heap.size ≤ ·) w wr) (fun _ q _ => n - (intOf q).toNat)
  case atStart => exact ⟨0, [], by omega, rfl, SR.nil _ _, HNM, Nat.zero_le _, Only.refl _ _⟩
  case round =>
    obtain ⟨i, o, hi, rfl, hR, HI, hol, hO⟩ := hrel
    obtain ⟨oR, cR, hv⟩ := rowForm hR
    subst hv
    have HR := Lib.hid hR
    have HO := Lib.hid hO
    by_cases hlt : i < n
    · have hil : i < l.length := by omega
      obtain ⟨b1, o1, e1, c1⟩ := (HL.out.up hO).cell i hil
      subst e1
      have hdi := drop_md hil
      obtain ⟨al, ox, oi, od, nx, cx, ni, ci, nd, cd, p0, p1, p2, p3, p4, hIz⟩ := c1
      obtain ⟨y, hy⟩ : ∃ y, (mdAt l i).nm = y := ⟨_, rfl⟩
      rw [hy] at p0
      have HN : Hid (((l.drop (i + 1)).map Md.nm).foldl insP (insP o y) = nsP l) := Lib.hid (by
        have h8 := HI.out
        rw [hdi, List.map_cons, List.foldl_cons, hy] at h8
        exact h8)
      have HIN : Hid (Calls Tryz.prog 42 #[.slice oR o.length cR, encStr y] wr fun e w' => ∃ oo co, e = .returned (.slice oo (insP o y).length co) ∧ SR w' wr.heap.size (.slice oo (insP o y).length co) (insP o y) ∧ Only (fun _ => False) wr w') := Lib.hid (rInsert_p wr oR o.length cR o hR.strz (by omega) y)
      have h01 : (0 : Int) ≤ (i : Int) := Int.natCast_nonneg i
      have h02 : (i : Int) < (n : Int) := by omega
      have h03 : (i : Int).toNat = i := Int.toNat_natCast i
      clear hdi hy hIz p1 p2 p3 p4 hR hO
      go_wp2_with (go_at_call 42; (refine HIN.out.mono ?_); rintro e w5 ⟨oo, co, rfl, hS5, hO5⟩; have HS5 := Lib.hid (rowMono hS5 HO.out.size); have HO5 := Lib.hid (HO.out.trans (hO5.lift (K := (w.heap.size ≤ ·)))); clear hS5 hO5)
      go_roundw
      case rel => exact ⟨i + 1, insP o y, by omega, by go_num, HS5.out, HN, by have := insP_len o y; omega, HO5.out⟩
      case measure => simp [intOf]; omega
    · have hin : i = l.length := by omega
      have HFI : Hid (o = nsP l) := Lib.hid (by rw [← HI.out, hin, List.drop_length]; rfl)
      have h02 : ¬ (i : Int) < (n : Int) := by omega
      clear hR hO hin
      go_wp2
      go_ret
      have h8 := HR.out
      rw [HFI.out, HNL.out] at h8
      rw [HFI.out, HNL.out]
      exact ⟨oR, cR, rfl, h8, HO.out.new⟩
theorem twiceP_congr : ∀ (l : List Md) {U V : List Nm}, (∀ s, s ∈ U ↔ s ∈ V) → twiceP l U = twiceP l V
  | [], _, _, _ => rfl
  | m :: l, U, V, h => by
    unfold twiceP
    by_cases e : m.nm ∈ U
    · rw [if_pos e, if_pos ((h _).1 e)]
    · rw [if_neg e, if_neg (fun hc => e ((h _).2 hc))]
      exact twiceP_congr l (fun s => by rw [List.mem_cons, List.mem_cons, h s])
/-- The fault as a value. -/
def conV (F : Option (Nat × Nm)) : Value := match F with
  | some (c, s) => faV c s
  | none => faV 0 []
theorem rconRes (W : World) (T : Array Value) (B1 : Nat) (f0 f1 f2 f3 : Value) (h1 : T[2]? = some (.pointer (some ⟨B1, 0, none⟩))) (hb1 : W.heap[B1]? = some (.cells #[f0, f1, f2, f3] 28 (0, 0))) : (results Tryz.f40 T).run Tryz.prog W = .ok (.agg #[f0, f1, f2, f3]) W := by
  have c0 : W.cell? ⟨B1, 0, none⟩ = some f0 := (blk_c (k := 0) hb1 rfl).1
  have c1 : W.cell? ⟨B1, 1, none⟩ = some f1 := (blk_c (k := 1) hb1 rfl).1
  have c2 : W.cell? ⟨B1, 2, none⟩ = some f2 := (blk_c (k := 2) hb1 rfl).1
  have c3 : W.cell? ⟨B1, 3, none⟩ = some f3 := (blk_c (k := 3) hb1 rfl).1
  simp [results, Tryz.results40, go_sem, h1, c0, c1, c2, c3]
theorem boxOnly {w wr : World} {o : Obj} (h : Only (w.heap.size + 1 ≤ ·) (w.alloc o) wr) : Only (w.heap.size ≤ ·) w wr := ((Only.refl (w.heap.size ≤ ·) w).alloc o).trans (h.wide (K' := (w.heap.size ≤ ·)) (fun i hi => by have hi' : w.heap.size + 1 ≤ i := hi; show w.heap.size ≤ i; omega))
theorem boxAt {w wr : World} {o : Obj} (h : Only (w.heap.size + 1 ≤ ·) (w.alloc o) wr) : wr.heap[w.heap.size]? = some o := (h.block w.heap.size (by show _ < (Array.push _ _).size; rw [Array.size_push]; omega) (fun hc => by have hc' : w.heap.size + 1 ≤ w.heap.size := hc; omega)).trans (new_block w o)
theorem cell_in {w w' : World} {b o : Nat} {v : Value} (h : w.cell? ⟨b, o, none⟩ = some v) (ho : Only (w.heap.size ≤ ·) w w') : w'.cell? ⟨b, o, none⟩ = some v := cell_old h ho (fun i hi hc => by have hc' : w.heap.size ≤ i := hc; omega) rfl
theorem faultEnd {w wr : World} {a0 a1 : Value} {c : Nat} {y : Nm} (hO : Only (w.heap.size + 1 ≤ ·) (w.alloc (.cells #[.int .i64 0, .string ⟨#[]⟩, .int .i64 0, .int .i64 0] 28)) wr) (h0 : a0 = .int .i64 c) (h1 : a1 = encStr y) :
    ((((wr.setCell ⟨w.heap.size, 0, none⟩ a0).setCell ⟨w.heap.size, 1, none⟩ a1).setCell ⟨w.heap.size, 2, none⟩ (.int .i64 0)).setCell ⟨w.heap.size, 3, none⟩ (.int .i64 0)).heap[w.heap.size]? = some (.cells #[.int .i64 c, encStr y, .int .i64 0, .int .i64 0] 28 (0, 0)) ∧ Only (fun _ => False) w ((((wr.setCell ⟨w.heap.size, 0, none⟩ a0).setCell ⟨w.heap.size, 1, none⟩ a1).setCell ⟨w.heap.size, 2, none⟩ (.int .i64 0)).setCell ⟨w.heap.size, 3, none⟩ (.int .i64 0)) := by
  subst h0
  subst h1
  constructor
  · have h1 := boxAt hO
    simp [World.setCell, Array.getElem?_modify, h1]
  · exact (only4 (boxOnly hO) (Nat.le_refl _)).new
theorem twiceP_cons (m : Md) (l : List Md) (U : List Nm) : twiceP (m :: l) U = if m.nm ∈ U then some m.nm else twiceP l (m.nm :: U) := rfl
theorem lacksP_cons (ns : List Nm) (m : Md) (l : List Md) : lacksP ns (m :: l) = match lackP ns m.im with | some s => some s | none => lacksP ns l := rfl
theorem take_all {α : Type} {l : List α} {n : Nat} (h : l.length = n) : l.take n = l := by rw [← h]; exact List.take_length
set_option maxRecDepth 100000 in
set_option maxHeartbeats 8000000 in
theorem rConsistent_p (w : World) (oa : Option Addr) (n ca : Nat) (l : List Md) (h : Mdz w oa n l) (him : n ≤ 32 → ∀ m ∈ l, m.im.length ≤ 100) : Calls Tryz.prog 40 #[.slice oa n ca] w fun e w' => e = .returned (conV (conA l)) ∧ Only (fun _ => False) w w' := by
  have hl := h.len
  by_cases hbig : 32 < n
  · have h1 : (32 : Int) < (n : Int) := by omega
    have HV : Hid (conV (conA l) = faV 3 []) := Lib.hid (by unfold conA; rw [if_pos (by omega)]; rfl)
    clear h him
    go_enter Tryz.func40, Tryz.ntmps40
    go_wp2
    refine bodyPost_ret (v := faV 3 []) (rconRes _ _ _ _ _ _ _ rfl (new_block w (.cells (faV 3 []).cells 28))) rfl ?_
    rw [HV.out]
    exact ⟨rfl, (Only.refl _ _).alloc _⟩
  · have HIM := Lib.hid (him (by omega))
    have h1 : ¬ (32 : Int) < (n : Int) := by omega
    have hcA : conA l = conF l := by unfold conA; rw [if_neg (by omega)]
    have HCA := Lib.hid hcA
    have HL := Lib.hid h
    obtain ⟨W, hW⟩ : ∃ W, W = w.alloc (.cells #[.int .i64 0, .string ⟨#[]⟩, .int .i64 0, .int .i64 0] 28) := ⟨_, rfl⟩
    have HW := Lib.hid hW
    clear h him hcA hW
    go_enter Tryz.func40, Tryz.ntmps40
    go_wp2
    go_loopw [3, 4] (fun v q wr => ∃ i : Nat, i ≤ n ∧ q = .int .i64 i ∧ SR wr (w.heap.size + 1) v ((l.take i).map Md.nm) ∧ Hid (∀ U : List Nm, (∀ s, s ∈ U ↔ s ∈ (l.take i).map Md.nm) → twiceP (l.drop i) U = twiceP l []) ∧ Only (w.heap.size + 1 ≤ ·) (w.alloc (.cells #[.int .i64 0, .string ⟨#[]⟩, .int .i64 0, .int .i64 0] 28)) wr) (fun _ q _ => n - (intOf q).toNat)
    case atStart => exact ⟨0, by omega, rfl, SR.nil _ _, Lib.hid (fun U hU => twiceP_congr l hU), Only.refl _ _⟩
    case round =>
      obtain ⟨i, hi, rfl, hR, HT, hO⟩ := hrel
      obtain ⟨oR, cR, hv⟩ := rowForm hR
      subst hv
      have hil0 : ((l.take i).map Md.nm).length = i := by rw [List.length_map, List.length_take]; omega
      rw [hil0] at hR ⊢
      have HIL0 := Lib.hid hil0
      have HR := Lib.hid hR
      have HO := Lib.hid hO
      have HSZ : Hid (w.heap.size + 1 ≤ wr.heap.size) := Lib.hid (by have h3 := hO.size; have h4 : (w.alloc (.cells #[.int .i64 0, .string ⟨#[]⟩, .int .i64 0, .int .i64 0] 28)).heap.size = w.heap.size + 1 := (by show (Array.push _ _).size = _; rw [Array.size_push]); omega)
      by_cases hlt : i < n
      · have hil : i < l.length := by omega
        obtain ⟨b1, o1, e1, c1⟩ := (HL.out.up (boxOnly hO)).cell i hil
        subst e1
        have hdi := drop_md hil
        have htk := take_nm hil
        obtain ⟨al, ox, oi, od, nx, cx, ni, ci, nd, cd, p0, p1, p2, p3, p4, hIz⟩ := c1
        obtain ⟨y, hy⟩ : ∃ y, (mdAt l i).nm = y := ⟨_, rfl⟩
        rw [hy] at p0 htk
        have HY := Lib.hid hy
        have HDI := Lib.hid hdi
        have HTK := Lib.hid htk
        have hbx := boxAt hO
        obtain ⟨q0, z0⟩ := blk_c (k := 0) hbx rfl
        obtain ⟨q1, z1⟩ := blk_c (k := 1) hbx rfl
        obtain ⟨q2, z2⟩ := blk_c (k := 2) hbx rfl
        obtain ⟨q3, z3⟩ := blk_c (k := 3) hbx rfl
        have h01 : (0 : Int) ≤ (i : Int) := Int.natCast_nonneg i
        have h02 : (i : Int) < (n : Int) := by omega
        have h03 : (i : Int).toNat = i := Int.toNat_natCast i
        obtain ⟨x, hx⟩ : ∃ x, decide (y ∈ (l.take i).map Md.nm) = x := ⟨_, rfl⟩
        have HHA : Hid (Calls Tryz.prog 21 #[.slice oR i cR, encStr y] wr fun e w' => e = .returned (.bool x) ∧ w' = wr) := Lib.hid (rHas_p wr oR i cR _ hR.strz (by omega) y x hx)
        clear hdi hy hIz p1 p2 p3 p4 hR hO hbx hil0 htk
        cases x with
        | true =>
          have HV : Hid (conV (conA l) = faV 13 y) := Lib.hid (by
            have h8 := HT.out ((l.take i).map Md.nm) (fun _ => Iff.rfl)
            rw [HDI.out] at h8
            rw [twiceP_cons, HY.out, if_pos (of_decide_eq_true hx)] at h8
            rw [HCA.out]
            unfold conF
            rw [← h8]
            rfl)
          clear hx
          go_wp2_with (go_at_call 21; (refine HHA.out.mono ?_); rintro e w5 ⟨rfl, rfl⟩)
          have hfe := faultEnd (c := 13) (y := y) HO.out (a0 := .int .i64 13) (a1 := encStr y) rfl rfl
          refine bodyPost_ret (v := faV 13 y) (rconRes _ _ _ _ _ _ _ rfl hfe.1) rfl ?_
          rw [HV.out]
          exact ⟨rfl, hfe.2⟩
        | false =>
          have HT2 : Hid (∀ U : List Nm, (∀ s, s ∈ U ↔ s ∈ (l.take (i + 1)).map Md.nm) → twiceP (l.drop (i + 1)) U = twiceP l []) := Lib.hid (fun U hU => by
            have h8 := HT.out ((l.take i).map Md.nm) (fun _ => Iff.rfl)
            rw [HDI.out] at h8
            rw [twiceP_cons, HY.out, if_neg (of_decide_eq_false hx)] at h8
            rw [← h8]
            exact twiceP_congr _ (fun s => by rw [hU s, HTK.out]; simp [or_comm]))
          clear hx
          go_wp2_with (first | (go_at_call 21; (refine HHA.out.mono ?_); rintro e w5 ⟨rfl, rfl⟩) | (at_builtin; refine wpList_append_nm rfl _ _ rfl (w.heap.size + 1) (.slice oR i cR) ((l.take i).map Md.nm) rfl (SR.al HR.out _) _ 1 1 [y] rfl (strz_one w5 y _) (by rw [List.length_map, List.length_take]; omega) (al_le HSZ.out _) ?_; intro oq cq w12 hq; have HA1 := Lib.hid hq.1; have HO1 := Lib.hid ((HO.out.alloc _).trans hq.2); clear hq))
          go_roundw
          case rel => exact ⟨i + 1, by omega, by go_num, by rw [HTK.out]; have h8 := HA1.out; rw [HIL0.out] at h8; exact h8, HT2, HO1.out⟩
          case measure => simp [intOf]; omega
      · have hin : i = n := by omega
        subst hin
        have hta := take_all hl
        rw [hta] at hR
        have htw : twiceP l [] = none := by
          have h8 := HT.out ((l.take i).map Md.nm) (fun _ => Iff.rfl)
          rw [← hl, List.drop_length] at h8
          rw [← h8]
          rfl
        have HCF : Hid (conA l = match lacksP (nsP l) l with | some s => some (16, s) | none => none) := Lib.hid (by rw [HCA.out]; unfold conF; rw [htw]; rfl)
        have HS0 : Hid (∀ wx, Only (fun _ => False) wr wx → Strz wx oR i (l.map Md.nm)) := Lib.hid (fun wx ho => hR.strz.old ho (fun _ _ hc => hc))
        obtain ⟨W0, rfl⟩ : ∃ W0, W0 = wr := ⟨_, rfl⟩
        have h02 : ¬ (i : Int) < (i : Int) := by omega
        clear hR hO hta htw HR HT HCA
        go_wp2
        go_loopw [5, 6] (fun q kv wr => ∃ j : Nat, j ≤ i ∧ q = .int .i64 j ∧ Hid (lacksP (nsP l) (l.drop j) = lacksP (nsP l) l) ∧ wr = W0) (fun q _ _ => i - (intOf q).toNat)
        case atStart => exact ⟨0, by omega, rfl, Lib.hid rfl, rfl⟩
        case round =>
          obtain ⟨j, hj, rfl, HI, rfl⟩ := hrel
          have hbx := boxAt HO.out
          obtain ⟨q0, z0⟩ := blk_c (k := 0) hbx rfl
          obtain ⟨q1, z1⟩ := blk_c (k := 1) hbx rfl
          obtain ⟨q2, z2⟩ := blk_c (k := 2) hbx rfl
          obtain ⟨q3, z3⟩ := blk_c (k := 3) hbx rfl
          by_cases hjn : j < i
          · have hjl : j < l.length := by omega
            obtain ⟨b1, o1, e1, c1⟩ := (HL.out.up (boxOnly HO.out)).cell j hjl
            subst e1
            have hdi := drop_md hjl
            have hml : mdAt l j ∈ l := by rw [mdAt_get hjl]; exact List.getElem_mem hjl
            have hmi := HIM.out _ hml
            obtain ⟨m, hm⟩ : ∃ m, mdAt l j = m := ⟨_, rfl⟩
            rw [hm] at c1 hdi hmi
            obtain ⟨al, ox, oi, od, nx, cx, ni, ci, nd, cd, p0, p1, p2, p3, p4, hIz⟩ := c1
            have hni := hIz.len
            have hnb : ni ≤ 100 := by omega
            have HDI := Lib.hid hdi
            have HIZ := Lib.hid hIz
            have HNI := Lib.hid hni
            have h01 : (0 : Int) ≤ (j : Int) := Int.natCast_nonneg j
            have h03 : (j : Int) < (i : Int) := by omega
            have h04 : (j : Int).toNat = j := Int.toNat_natCast j
            clear hdi hml hmi hm p0 p1 p2 p4 hIz hni hbx q0 z0 q1 z1 q2 z2 q3 z3
            go_wp2
            go_loopw [6] (fun q wr' => ∃ k : Nat, k ≤ ni ∧ q = .int .i64 k ∧ Hid (∀ t, t < k → nAt m.im t ∈ nsP l) ∧ wr' = wr) (fun q _ => ni - (intOf q).toNat)
            case atStart => exact ⟨0, by omega, rfl, Lib.hid (fun t ht => absurd ht (Nat.not_lt_zero _)), rfl⟩
            case round =>
              obtain ⟨k, hk, rfl, HK, rfl⟩ := hrel
              by_cases hkn : k < ni
              · have hkl : k < m.im.length := by have := HNI.out; omega
                obtain ⟨b2, o2, e2, d2⟩ := HIZ.out.cell k hkl
                subst e2
                obtain ⟨qq, aa, hh, sa, on, nn, cc, d0, -⟩ := d2
                obtain ⟨y, hy⟩ : ∃ y, nAt m.im k = y := ⟨_, rfl⟩
                rw [hy] at d0
                obtain ⟨x, hx⟩ : ∃ x, decide (y ∈ l.map Md.nm) = x := ⟨_, rfl⟩
                have HHA := Lib.hid (rHas_p _ oR i cR _ (HS0.out _ (Only.refl _ _)) (by omega) y x hx)
                have hbx := boxAt HO.out
                obtain ⟨q0, z0⟩ := blk_c (k := 0) hbx rfl
                obtain ⟨q1, z1⟩ := blk_c (k := 1) hbx rfl
                obtain ⟨q2, z2⟩ := blk_c (k := 2) hbx rfl
                obtain ⟨q3, z3⟩ := blk_c (k := 3) hbx rfl
                have h05 : (0 : Int) ≤ (k : Int) := Int.natCast_nonneg k
                have h06 : (k : Int) < (ni : Int) := by omega
                have h07 : (k : Int).toNat = k := Int.toNat_natCast k
                cases x with
                | false =>
                  have HV : Hid (conV (conA l) = faV 16 y) := Lib.hid (by
                    have h8 : lackP (nsP l) m.im = some y := by
                      rw [lackP_at (j := k) HK.out hkl (by rw [hy, nsP_mem]; exact of_decide_eq_false hx), hy]
                    have h9 := HI.out
                    rw [HDI.out] at h9
                    rw [lacksP_cons, h8] at h9
                    rw [HCF.out, ← h9]
                    rfl)
                  clear hx hy hbx
                  go_wp2_with (go_at_call 21; (refine HHA.out.mono ?_); rintro e w5 ⟨rfl, rfl⟩)
                  have hfe := faultEnd (c := 16) (y := y) HO.out (a0 := .int .i64 16) (a1 := encStr y) rfl rfl
                  refine bodyPost_ret (v := faV 16 y) (rconRes _ _ _ _ _ _ _ rfl hfe.1) rfl ?_
                  rw [HV.out]
                  exact ⟨rfl, hfe.2⟩
                | true =>
                  have HN : Hid (∀ t, t < k + 1 → nAt m.im t ∈ nsP l) := Lib.hid (fun t ht => by
                    by_cases e : t = k
                    · rw [e, hy, nsP_mem]; exact of_decide_eq_true hx
                    · exact HK.out t (by omega))
                  clear hx hy hbx q0 z0 q1 z1 q2 z2 q3 z3
                  go_wp2_with (go_at_call 21; (refine HHA.out.mono ?_); rintro e w5 ⟨rfl, rfl⟩)
                  go_roundw
                  case rel => exact ⟨k + 1, by omega, by go_num, HN, trivial⟩
                  case measure => simp [intOf]; omega
              · have h06 : ¬ (k : Int) < (ni : Int) := by omega
                have HN : Hid (lacksP (nsP l) (l.drop (j + 1)) = lacksP (nsP l) l) := Lib.hid (by
                  have h8 : lackP (nsP l) m.im = none := lackP_none.2 (fun s hs => by
                    obtain ⟨t, ht, e⟩ := List.getElem_of_mem hs
                    have := HK.out t (by have := HNI.out; omega)
                    rw [nAt_get ht, e] at this
                    exact this)
                  have h9 := HI.out
                  rw [HDI.out] at h9
                  rw [lacksP_cons, h8] at h9
                  exact h9)
                go_wp2
                go_roundw
                case rel => exact ⟨j + 1, by omega, by go_num, HN, trivial⟩
                case measure => simp [intOf]; omega
          · have HV : Hid (conV (conA l) = faV 0 []) := Lib.hid (by
              have h9 := HI.out
              rw [show j = l.length by omega, List.drop_length] at h9
              have h10 : lacksP (nsP l) l = none := h9.symm
              rw [HCF.out, h10]
              rfl)
            have h06 : ¬ (j : Int) < (i : Int) := by omega
            clear hbx
            go_wp2
            have hfe := faultEnd (c := 0) (y := []) HO.out (a0 := .int .i64 0) (a1 := .string ⟨#[]⟩) rfl rfl
            refine bodyPost_ret (v := faV 0 []) (rconRes _ _ _ _ _ _ _ rfl hfe.1) rfl ?_
            rw [HV.out]
            exact ⟨rfl, hfe.2⟩
end Go.Proofs.YtigmdiagdlbdpaaGreat
