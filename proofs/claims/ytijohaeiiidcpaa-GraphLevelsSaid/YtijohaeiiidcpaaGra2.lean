/-
  PLAIN. The search for components: what is true of the numbers (no edge to a greater one; equal ones reach each other).
-/
import Derived.Test.YtijohaeiiidcpaaGra
namespace Go.Proofs.Ytijohaeiiidcpaa
inductive Re (G : List (List Nat)) : Nat → Nat → Prop
  | refl (x : Nat) : Re G x x
  | step {x y z k : Nat} : Re G x y → nx G y k = some z → Re G x z
theorem Re.trans {G : List (List Nat)} {x y z : Nat} (h : Re G x y) (k : Re G y z) : Re G x z := by
  induction k with
  | refl => exact h
  | step _ e ih => exact ih.step e
theorem Re.one {G : List (List Nat)} {x y k : Nat} (e : nx G x k = some y) : Re G x y := (Re.refl x).step e
/-- A path node is the last one found before x. -/
def Own (s : SS) (q x : Nat) : Prop := gt s.place q < gt s.place x ∧ ∀ r ∈ s.path, gt s.place r < gt s.place x → gt s.place r ≤ gt s.place q
structure Fu (G : List (List Nat)) (s : SS) : Prop where
  lt : Lt G s
  off : ∀ x, gt s.place x ≠ 0 → x ∉ s.path → degG G x ≤ gt s.looked x
  lkf : ∀ x k y, k < gt s.looked x → nx G x k = some y → gt s.place y ≠ 0
  cls : ∀ x k y, gt s.number x ≠ 0 → nx G x k = some y → gt s.number y ≠ 0 ∧ gt s.number y ≤ gt s.number x
  onl : ∀ x ∈ s.path, ∀ k y, k < gt s.looked x → nx G x k = some y → gt s.number y = 0 → gt s.lowest x ≤ gt s.place y
  ofl : ∀ x ∈ s.opn, x ∉ s.path → ∀ q ∈ s.path, Own s q x → ∀ k y, nx G x k = some y → gt s.number y = 0 → gt s.lowest q ≤ gt s.place y
  low : ∀ x ∈ s.opn, gt s.lowest x ≤ gt s.place x ∧ ∃ z ∈ s.opn, gt s.lowest x = gt s.place z ∧ Re G x z
  lowo : ∀ x ∈ s.opn, x ∉ s.path → gt s.lowest x < gt s.place x
  pre : ∀ p ∈ s.path, ∀ x ∈ s.opn, gt s.place p ≤ gt s.place x → Re G p x
  same : ∀ x y, gt s.number x ≠ 0 → gt s.number x = gt s.number y → Re G x y
  own : ∀ x ∈ s.opn, ∃ p ∈ s.path, gt s.place p ≤ gt s.place x
section
variable {G : List (List Nat)} {s : SS}
theorem Lt.inj (h : Lt G s) {x y : Nat} (hx : x ∈ s.opn) (hy : y ∈ s.opn) (e : gt s.place x = gt s.place y) : x = y := by
  obtain ⟨A, B, e1, -, -, hA, hB⟩ := h.split hx
  rw [e1] at hy
  rcases List.mem_append.1 hy with hy | hy
  · have := hA y hy; omega
  · rcases List.mem_cons.1 hy with hy | hy
    · exact hy.symm
    · have := hB y hy; omega
/-- The path's end is the last found of it. -/
theorem Lt.endmax (h : Lt G s) {A : List Nat} {u : Nat} (hp : s.path = A ++ [u]) : ∀ p ∈ A, gt s.place p < gt s.place u := by
  have := h.srt.sublist h.sub
  rw [hp, List.pairwise_append] at this
  exact fun p hpa => this.2.2 p hpa u (by simp)
theorem zget (n x : Nat) : gt (zeros n) x = 0 := by
  unfold gt zeros
  rw [List.getD_eq_getElem?_getD, List.getElem?_replicate]
  split <;> rfl
theorem s0_fu (G : List (List Nat)) : Fu G (s0S G.length) :=
  ⟨s0_lt G, fun x hx => absurd (zget _ x) hx, fun x k y hk => by have h0 : gt (s0S G.length).looked x = 0 := zget _ x; omega, fun x k y hx => absurd (zget _ x) hx, fun x hx => absurd hx List.not_mem_nil, fun x hx => absurd hx List.not_mem_nil, fun x hx => absurd hx List.not_mem_nil, fun x hx => absurd hx List.not_mem_nil, fun x hx => absurd hx List.not_mem_nil, fun x y hx => absurd (zget _ x) hx, fun x hx => absurd hx List.not_mem_nil⟩
theorem enter_fu (h : Fu G s) {v : Nat} (hv : v < G.length) (h0 : gt s.place v = 0) (hp : s.path = [] ∨ nx G (endS s) (gt s.looked (endS s)) = some v) : Fu G (enterS s v) := by
  have hL := enter_lt h.lt hv h0 hp
  have hvp : v < s.place.length := by rw [h.lt.lp]; exact hv
  have hpl : ∀ x, gt (enterS s v).place x = if x = v then s.found + 1 else gt s.place x := fun x => gt_set hvp _ _
  have hll : ∀ x, gt (enterS s v).lowest x = if x = v then s.found + 1 else gt s.lowest x := fun x => gt_set (by rw [h.lt.ll]; exact hv) _ _
  have hvn : v ∉ s.opn := fun hm => (h.lt.opo v hm).1 h0
  have hvpa : v ∉ s.path := fun hm => hvn (h.lt.pin hm)
  have hvb : gt s.number v = 0 := Classical.byContradiction (fun hn => h.lt.nbp v hn h0)
  have hlkv : gt s.looked v = 0 ∨ ∃ k, gt s.looked v = k + 1 := by cases gt s.looked v <;> simp
  have hmo : ∀ x, x ∈ (enterS s v).opn ↔ x ∈ s.opn ∨ x = v := fun x => by show x ∈ s.opn ++ [v] ↔ _; simp
  have hmp : ∀ x, x ∈ (enterS s v).path ↔ x ∈ s.path ∨ x = v := fun x => by show x ∈ s.path ++ [v] ↔ _; simp
  have hpo : ∀ x ∈ s.opn, gt (enterS s v).place x = gt s.place x := fun x hx => by rw [hpl, if_neg (fun e : x = v => hvn (e ▸ hx))]
  have hlo : ∀ x ∈ s.opn, gt (enterS s v).lowest x = gt s.lowest x := fun x hx => by rw [hll, if_neg (fun e : x = v => hvn (e ▸ hx))]
  have hpge : ∀ x, gt s.place x ≤ gt (enterS s v).place x := fun x => by rw [hpl]; have := h.lt.bnd x; split <;> omega
  refine ⟨hL, ?_, ?_, h.cls, ?_, ?_, ?_, ?_, ?_, h.same, ?_⟩
  · intro x hx hn
    rw [hmp] at hn
    rw [hpl, if_neg (fun e => hn (.inr e))] at hx
    exact h.off x hx (fun hm => hn (.inl hm))
  · intro x k y hk he
    have := h.lkf x k y hk he
    have := hpge y
    omega
  · intro x hx k y hk he hy
    rw [hmp] at hx
    have hy0 := h.lkf x k y hk he
    have hyo := h.lt.opf y hy0 hy
    rw [hpo y hyo]
    rcases hx with hx | hx
    · rw [hlo x (h.lt.pin hx)]
      exact h.onl x hx k y hk he hy
    · -- v has not looked at anything
      exfalso
      subst hx
      have hz : gt s.looked x = 0 := by
        apply Classical.byContradiction
        intro hne
        obtain ⟨k', hk'⟩ : ∃ k', gt s.looked x = k' + 1 := ⟨gt s.looked x - 1, by omega⟩
        have hb : k < gt s.looked x := hk
        exact hne (h.lt.lkz x h0)
      have hk' : k < gt s.looked x := hk
      omega
  · intro x hx hxp q hq ho k y he hy
    rw [hmo] at hx
    rw [hmp] at hxp hq
    rcases hx with hx | hx
    · have hd := h.off x (h.lt.opo x hx).1 (fun hm => hxp (.inl hm))
      have hy0 := h.lkf x k y (Nat.lt_of_lt_of_le (nx_deg he) hd) he
      have hyo := h.lt.opf y hy0 hy
      rcases hq with hq | hq
      · rw [hlo q (h.lt.pin hq), hpo y hyo]
        refine h.ofl x hx (fun hm => hxp (.inl hm)) q hq ⟨?_, fun r hr hlt => ?_⟩ k y he hy
        · have := ho.1
          rw [hpo q (h.lt.pin hq), hpo x hx] at this
          exact this
        · have := ho.2 r ((hmp r).2 (.inl hr)) (by rw [hpo r (h.lt.pin hr), hpo x hx]; exact hlt)
          rw [hpo r (h.lt.pin hr), hpo q (h.lt.pin hq)] at this
          exact this
      · have := ho.1
        rw [hq, hpl, if_pos rfl, hpo x hx] at this
        have := h.lt.bnd x
        omega
    · exact absurd (.inr hx) hxp
  · intro x hx
    rw [hmo] at hx
    rcases hx with hx | hx
    · obtain ⟨h1, z, hz, h2, h3⟩ := h.low x hx
      rw [hlo x hx, hpo x hx]
      exact ⟨h1, z, (hmo z).2 (.inl hz), by rw [hpo z hz]; exact h2, h3⟩
    · rw [hll, hpl, if_pos hx, if_pos hx]
      exact ⟨Nat.le_refl _, v, (hmo v).2 (.inr rfl), by rw [hpl, if_pos rfl], hx ▸ Re.refl _⟩
  · intro x hx hn
    rw [hmo] at hx
    rw [hmp] at hn
    rcases hx with hx | hx
    · rw [hlo x hx, hpo x hx]; exact h.lowo x hx (fun hm => hn (.inl hm))
    · exact absurd (.inr hx) hn
  · intro p hpp x hx hle
    rw [hmp] at hpp
    rw [hmo] at hx
    rcases hpp with hpp | hpp
    · rcases hx with hx | hx
      · rw [hpo p (h.lt.pin hpp), hpo x hx] at hle
        exact h.pre p hpp x hx hle
      · rcases hp with hp | hp
        · rw [hp] at hpp; exact absurd hpp List.not_mem_nil
        · rcases path_cases s.path with e | ⟨A, u, e⟩
          · rw [e] at hpp; exact absurd hpp List.not_mem_nil
          · rw [endS_app e] at hp
            have hu : u ∈ s.path := by rw [e]; simp
            have h1 : gt s.place p ≤ gt s.place u := by
              rw [e] at hpp
              rcases List.mem_append.1 hpp with hpa | hpa
              · exact Nat.le_of_lt (h.lt.endmax e p hpa)
              · have : p = u := by simpa using hpa
                rw [this]; exact Nat.le_refl _
            rw [hx]
            exact (h.pre p hpp u (h.lt.pin hu) h1).step hp
    · rcases hx with hx | hx
      · rw [hpp, hpl, if_pos rfl, hpo x hx] at hle
        have := h.lt.bnd x
        omega
      · rw [hpp, hx]; exact Re.refl _
  · intro x hx
    rw [hmo] at hx
    rcases hx with hx | hx
    · obtain ⟨p, hp1, hp2⟩ := h.own x hx
      exact ⟨p, (hmp p).2 (.inl hp1), by rw [hpo p (h.lt.pin hp1), hpo x hx]; exact hp2⟩
    · exact ⟨v, (hmp v).2 (.inr rfl), by rw [hx]; exact Nat.le_refl _⟩
theorem look_fu (h : Fu G s) {A : List Nat} {u v : Nat} (hp : s.path = A ++ [u]) (he : nx G u (gt s.looked u) = some v) (hv : gt s.place v ≠ 0) : Fu G (lookS s u v) := by
  have hL := look_lt h.lt hp he
  have hul : u < G.length := nx_lt he
  have hup : u ∈ s.path := by rw [hp]; simp
  have huo := h.lt.pin hup
  have hlk : ∀ x, gt (lookS s u v).looked x = if x = u then gt s.looked u + 1 else gt s.looked x := fun x => gt_set (by rw [h.lt.lk]; exact hul) _ _
  have hll : ∀ x, gt (lookS s u v).lowest x = if x = u ∧ gt s.number v = 0 then min (gt s.lowest u) (gt s.lowest v) else gt s.lowest x := fun x => by
    show gt (if gt s.number v = 0 then s.lowest.set u _ else s.lowest) x = _
    by_cases hn : gt s.number v = 0
    · rw [if_pos hn, gt_set (by rw [h.lt.ll]; exact hul)]
      by_cases hx : x = u
      · rw [if_pos hx, if_pos ⟨hx, hn⟩]
      · rw [if_neg hx, if_neg (fun hc => hx hc.1)]
    · rw [if_neg hn, if_neg (fun hc => hn hc.2)]
  have hle : ∀ x, gt (lookS s u v).lowest x ≤ gt s.lowest x := fun x => by
    rw [hll]
    split
    · rename_i hc; rw [hc.1]; exact Nat.min_le_left _ _
    · exact Nat.le_refl _
  refine ⟨hL, ?_, ?_, h.cls, ?_, ?_, ?_, ?_, h.pre, h.same, h.own⟩
  · intro x hx hn
    have := h.off x hx hn
    rw [hlk]
    split
    · rename_i e; rw [e] at this ⊢; omega
    · exact this
  · intro x k y hk hxy
    rw [hlk] at hk
    show gt s.place y ≠ 0
    by_cases hx : x = u
    · rw [if_pos hx] at hk
      by_cases hk2 : k < gt s.looked u
      · exact h.lkf u k y hk2 (hx ▸ hxy)
      · have : k = gt s.looked u := by omega
        rw [hx, this, he] at hxy
        exact (Option.some.inj hxy) ▸ hv
    · rw [if_neg hx] at hk
      exact h.lkf x k y hk hxy
  · intro x hx k y hk hxy hy
    rw [hlk] at hk
    show _ ≤ gt s.place y
    by_cases hxu : x = u
    · rw [if_pos hxu] at hk
      by_cases hk2 : k < gt s.looked u
      · exact Nat.le_trans (hle x) (h.onl x hx k y (hxu ▸ hk2) hxy hy)
      · have : k = gt s.looked u := by omega
        rw [hxu, this, he] at hxy
        have hyv : v = y := Option.some.inj hxy
        have hn : gt s.number v = 0 := hyv ▸ hy
        rw [hll, if_pos ⟨hxu, hn⟩, ← hyv]
        exact Nat.le_trans (Nat.min_le_right _ _) (h.low v (h.lt.opf v hv hn)).1
    · rw [if_neg hxu] at hk
      exact Nat.le_trans (hle x) (h.onl x hx k y hk hxy hy)
  · intro x hx hxp q hq ho k y hxy hy
    exact Nat.le_trans (hle q) (h.ofl x hx hxp q hq ho k y hxy hy)
  · intro x hx
    obtain ⟨h1, z, hz, h2, h3⟩ := h.low x hx
    refine ⟨Nat.le_trans (hle x) h1, ?_⟩
    show ∃ z ∈ s.opn, _ = gt s.place z ∧ _
    rw [hll]
    by_cases hc : x = u ∧ gt s.number v = 0
    · rw [if_pos hc]
      obtain ⟨-, z', hz', h2', h3'⟩ := h.low v (h.lt.opf v hv hc.2)
      by_cases hm : gt s.lowest u ≤ gt s.lowest v
      · rw [Nat.min_eq_left hm, ← hc.1]; exact ⟨z, hz, h2, h3⟩
      · rw [Nat.min_eq_right (by omega)]
        exact ⟨z', hz', h2', hc.1 ▸ (Re.one he).trans h3'⟩
    · rw [if_neg hc]; exact ⟨z, hz, h2, h3⟩
  · intro x hx hn
    exact Nat.lt_of_le_of_lt (hle x) (h.lowo x hx hn)
end
end Go.Proofs.Ytijohaeiiidcpaa
