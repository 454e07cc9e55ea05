/-
  PLAIN. The search for components: a node is left; the whole search.
-/
import Derived.Test.YtijohaeiiidcpaaGra2
namespace Go.Proofs.Ytijohaeiiidcpaa
section
variable {G : List (List Nat)} {s : SS}
theorem leave_same (s : SS) (u : Nat) : (leaveS s u).place = s.place ∧ (leaveS s u).lowest = s.lowest ∧ (leaveS s u).looked = s.looked ∧ (leaveS s u).path = s.path.dropLast ∧ (leaveS s u).found = s.found := by
  unfold leaveS
  split <;> exact ⟨rfl, rfl, rfl, rfl, rfl⟩
theorem leave_open {u : Nat} (h : gt s.lowest u < gt s.place u) : leaveS s u = { s with path := s.path.dropLast } := by unfold leaveS; rw [if_pos h]
/-- Nothing open that was found before the path's end, which is its component's first, can be reached by an edge of the nodes found from it on. -/
theorem seg_edge (h : Fu G s) {A : List Nat} {v : Nat} (hp : s.path = A ++ [v]) (hd : degG G v ≤ gt s.looked v) (hlo : ¬ gt s.lowest v < gt s.place v) {x y k : Nat} (hx : x ∈ s.opn) (hvx : gt s.place v ≤ gt s.place x) (he : nx G x k = some y) (hy : gt s.number y = 0) :
    y ∈ s.opn ∧ gt s.place v ≤ gt s.place y := by
  have hvp : v ∈ s.path := by rw [hp]; simp
  have hvo := h.lt.pin hvp
  by_cases e : x = v
  · subst e
    have hk := Nat.lt_of_lt_of_le (nx_deg he) hd
    have hyo := h.lt.opf y (h.lkf x k y hk he) hy
    have := h.onl x hvp k y hk he hy
    exact ⟨hyo, by omega⟩
  · have hlt : gt s.place v < gt s.place x := by
      rcases Nat.lt_or_ge (gt s.place v) (gt s.place x) with h1 | h1
      · exact h1
      · exact absurd (h.lt.inj hx hvo (by omega)) e
    have hxp : x ∉ s.path := fun hm => by
      rw [hp] at hm
      rcases List.mem_append.1 hm with hm | hm
      · have := h.lt.endmax hp x hm; omega
      · exact e (by simpa using hm)
    have hk := Nat.lt_of_lt_of_le (nx_deg he) (h.off x (h.lt.opo x hx).1 hxp)
    have hyo := h.lt.opf y (h.lkf x k y hk he) hy
    have := h.ofl x hx hxp v hvp ⟨hlt, fun r hr _ => by
      rw [hp] at hr
      rcases List.mem_append.1 hr with hr | hr
      · exact Nat.le_of_lt (h.lt.endmax hp r hr)
      · have : r = v := by simpa using hr
        rw [this]; exact Nat.le_refl _⟩ k y he hy
    exact ⟨hyo, by omega⟩
theorem seg_reach (h : Fu G s) {A : List Nat} {v : Nat} (hp : s.path = A ++ [v]) (hd : degG G v ≤ gt s.looked v) (hlo : ¬ gt s.lowest v < gt s.place v) {x z : Nat} (hr : Re G x z) (hx : x ∈ s.opn) (hvx : gt s.place v ≤ gt s.place x) :
    (z ∈ s.opn ∧ gt s.place v ≤ gt s.place z) ∨ gt s.number z ≠ 0 := by
  induction hr with
  | refl => exact .inl ⟨hx, hvx⟩
  | step _ e ih =>
    rename_i y z k _
    by_cases hz : gt s.number z = 0
    · rcases ih with ⟨h1, h2⟩ | h1
      · exact .inl (seg_edge h hp hd hlo h1 h2 e hz)
      · exact absurd hz (h.cls y k z h1 e).1
    · exact .inr hz
/-- From each of them the path's end is reached. -/
theorem seg_back (h : Fu G s) {A : List Nat} {v : Nat} (hp : s.path = A ++ [v]) (hd : degG G v ≤ gt s.looked v) (hlo : ¬ gt s.lowest v < gt s.place v) : ∀ (n : Nat) (x : Nat), gt s.place x ≤ n → x ∈ s.opn → gt s.place v ≤ gt s.place x → Re G x v
  | 0, x, hn, hx, hvx => absurd (h.lt.opo x hx).1 (by omega)
  | n + 1, x, hn, hx, hvx => by
    have hvp : v ∈ s.path := by rw [hp]; simp
    by_cases e : x = v
    · rw [e]; exact Re.refl _
    · have hlt : gt s.place v < gt s.place x := by
        rcases Nat.lt_or_ge (gt s.place v) (gt s.place x) with h1 | h1
        · exact h1
        · exact absurd (h.lt.inj hx (h.lt.pin hvp) (by omega)) e
      have hxp : x ∉ s.path := fun hm => by
        rw [hp] at hm
        rcases List.mem_append.1 hm with hm | hm
        · have := h.lt.endmax hp x hm; omega
        · exact e (by simpa using hm)
      have h1 := h.lowo x hx hxp
      obtain ⟨-, z, hz, h2, h3⟩ := h.low x hx
      have h4 : gt s.place v ≤ gt s.place z := by
        rcases seg_reach h hp hd hlo h3 hx hvx with h5 | h5
        · exact h5.2
        · exact absurd (h.lt.opo z hz).2 h5
      exact h3.trans (seg_back h hp hd hlo n z (by omega) hz h4)
/-- A component is closed. -/
theorem close_fu (h : Fu G s) {A : List Nat} {v : Nat} (hp : s.path = A ++ [v]) (hd : degG G v ≤ gt s.looked v) (hlo : ¬ gt s.lowest v < gt s.place v) : Fu G (leaveS s v) := by
  have hL := leave_lt h.lt hp
  have hvp : v ∈ s.path := by rw [hp]; simp
  have hvo := h.lt.pin hvp
  obtain ⟨C, B, e, hC, hB, hCl, hBl⟩ := h.lt.split hvo
  obtain ⟨h1, h2, h3, h4⟩ := leave_close h.lt e hB hlo
  obtain ⟨e1, e2, e3, e4, e5⟩ := leave_same s v
  have hpa : (leaveS s v).path = A := by rw [e4, hp]; simp
  have hseg : ∀ x, (x ∈ B ∨ x = v) ↔ (x ∈ s.opn ∧ gt s.place v ≤ gt s.place x) := fun x => by
    constructor
    · rintro (hx | hx)
      · exact ⟨by rw [e]; simp [hx], Nat.le_of_lt (hBl x hx)⟩
      · rw [hx]; exact ⟨hvo, Nat.le_refl _⟩
    · rintro ⟨hx, hle⟩
      rw [e] at hx
      rcases List.mem_append.1 hx with hx | hx
      · have := hCl x hx; omega
      · exact (List.mem_cons.1 hx).elim .inr .inl
  have hnb : ∀ x, gt (leaveS s v).number x = if x ∈ s.opn ∧ gt s.place v ≤ gt s.place x then s.last + 1 else gt s.number x := fun x => by
    rw [h4]
    by_cases hc : x ∈ B ∨ x = v
    · rw [if_pos hc, if_pos ((hseg x).1 hc)]
    · rw [if_neg hc, if_neg (fun hh => hc ((hseg x).2 hh))]
  have hCo : ∀ x, x ∈ C ↔ x ∈ s.opn ∧ gt s.place x < gt s.place v := fun x => by
    constructor
    · intro hx; exact ⟨by rw [e]; simp [hx], hCl x hx⟩
    · rintro ⟨hx, hle⟩
      rw [e] at hx
      rcases List.mem_append.1 hx with hx | hx
      · exact hx
      · rcases List.mem_cons.1 hx with hx | hx
        · rw [hx] at hle; omega
        · have := hBl x hx; omega
  have hn0 : ∀ y, gt (leaveS s v).number y = 0 → gt s.number y = 0 := fun y hy => by
    rw [hnb] at hy
    split at hy
    · omega
    · exact hy
  have hAp : ∀ x, x ∈ A → x ∈ s.path := fun x hx => by rw [hp]; simp [hx]
  have hvA : v ∉ A := fun hm => by have := h.lt.endmax hp v hm; omega
  refine ⟨hL, ?_, ?_, ?_, ?_, ?_, ?_, ?_, ?_, ?_, ?_⟩
  · intro x hx hn
    rw [e1] at hx
    rw [hpa] at hn
    rw [e3]
    by_cases ev : x = v
    · rw [ev]; exact hd
    · exact h.off x hx (fun hm => by
        rw [hp] at hm
        rcases List.mem_append.1 hm with hm | hm
        · exact hn hm
        · exact ev (by simpa using hm))
  · intro x k y hk he
    rw [e3] at hk
    rw [e1]
    exact h.lkf x k y hk he
  · intro x k y hx he
    rw [hnb] at hx
    rw [hnb y, hnb x]
    by_cases hc : x ∈ s.opn ∧ gt s.place v ≤ gt s.place x
    · rw [if_pos hc]
      by_cases hy : gt s.number y = 0
      · rw [if_pos (seg_edge h hp hd hlo hc.1 hc.2 he hy)]
        exact ⟨by omega, Nat.le_refl _⟩
      · rw [if_neg (fun hh => hy (h.lt.opo y hh.1).2)]
        exact ⟨hy, by have := h.lt.nbl y; omega⟩
    · rw [if_neg hc] at hx ⊢
      have := h.cls x k y hx he
      rw [if_neg (fun hh => this.1 (h.lt.opo y hh.1).2)]
      exact this
  · intro x hx k y hk he hy
    rw [hpa] at hx
    rw [e3] at hk
    rw [e2, e1]
    exact h.onl x (hAp x hx) k y hk he (hn0 y hy)
  · intro x hx hxp q hq ho k y he hy
    rw [h1] at hx
    rw [hpa] at hxp hq
    rw [e2, e1]
    have hxo := (hCo x).1 hx
    have hxp' : x ∉ s.path := fun hm => by
      rw [hp] at hm
      rcases List.mem_append.1 hm with hm | hm
      · exact hxp hm
      · have : x = v := by simpa using hm
        rw [this] at hxo; omega
    refine h.ofl x hxo.1 hxp' q (hAp q hq) ⟨by have := ho.1; rw [e1] at this; exact this, fun r hr hlt => ?_⟩ k y he (hn0 y hy)
    rw [hp] at hr
    rcases List.mem_append.1 hr with hr | hr
    · have := ho.2 r (by rw [hpa]; exact hr)
      rw [e1] at this
      exact this hlt
    · have : r = v := by simpa using hr
      rw [this] at hlt; omega
  · intro x hx
    rw [h1] at hx
    have hxo := (hCo x).1 hx
    obtain ⟨g1, z, hz, g2, g3⟩ := h.low x hxo.1
    rw [e2, e1]
    exact ⟨g1, z, by rw [h1]; exact (hCo z).2 ⟨hz, by omega⟩, g2, g3⟩
  · intro x hx hn
    rw [h1] at hx
    rw [hpa] at hn
    have hxo := (hCo x).1 hx
    rw [e2, e1]
    exact h.lowo x hxo.1 (fun hm => by
      rw [hp] at hm
      rcases List.mem_append.1 hm with hm | hm
      · exact hn hm
      · have : x = v := by simpa using hm
        rw [this] at hxo; omega)
  · intro p hpp x hx hle
    rw [hpa] at hpp
    rw [h1] at hx
    rw [e1] at hle
    exact h.pre p (hAp p hpp) x ((hCo x).1 hx).1 hle
  · intro x y hx hxy
    rw [hnb] at hx
    rw [hnb x, hnb y] at hxy
    by_cases hc : x ∈ s.opn ∧ gt s.place v ≤ gt s.place x
    · rw [if_pos hc] at hxy
      by_cases hc2 : y ∈ s.opn ∧ gt s.place v ≤ gt s.place y
      · exact (seg_back h hp hd hlo _ x (Nat.le_refl _) hc.1 hc.2).trans (h.pre v hvp y hc2.1 hc2.2)
      · rw [if_neg hc2] at hxy
        have := h.lt.nbl y
        omega
    · rw [if_neg hc] at hxy hx
      by_cases hc2 : y ∈ s.opn ∧ gt s.place v ≤ gt s.place y
      · rw [if_pos hc2] at hxy
        have := h.lt.nbl x
        omega
      · rw [if_neg hc2] at hxy
        exact h.same x y hx hxy
  · intro x hx
    rw [h1] at hx
    have hxo := (hCo x).1 hx
    obtain ⟨p, hp1, hp2⟩ := h.own x hxo.1
    refine ⟨p, ?_, by rw [e1]; exact hp2⟩
    rw [hpa]
    rw [hp] at hp1
    rcases List.mem_append.1 hp1 with hp1 | hp1
    · exact hp1
    · have : p = v := by simpa using hp1
      rw [this] at hp2; omega
/-- A node that is not its component's first is left, and the node before it on the path looks at it. -/
theorem back_fu (h : Fu G s) {A : List Nat} {u v : Nat} (hp : s.path = A ++ [u] ++ [v]) (hd : degG G v ≤ gt s.looked v) (hlo : gt s.lowest v < gt s.place v) : Fu G (lookS (leaveS s v) u v) := by
  have hL1 := leave_lt h.lt hp
  have hs : leaveS s v = { s with path := A ++ [u] } := by rw [leave_open hlo, hp]; simp
  have hvp : v ∈ s.path := by rw [hp]; simp
  have hvo := h.lt.pin hvp
  have hup : u ∈ s.path := by rw [hp]; simp
  have huo := h.lt.pin hup
  have hed : nx G u (gt s.looked u) = some v := h.lt.chain A u v [] (by rw [hp]; simp)
  have hul : u < G.length := nx_lt hed
  have hv0 : gt s.number v = 0 := (h.lt.opo v hvo).2
  rw [hs] at hL1 ⊢
  have hL := look_lt hL1 (A := A) (u := u) (v := v) rfl hed
  have huv : u ≠ v := fun e => by
    have := h.lt.endmax hp u (by simp)
    rw [e] at this; omega
  have hlk : ∀ x, gt (lookS { s with path := A ++ [u] } u v).looked x = if x = u then gt s.looked u + 1 else gt s.looked x := fun x => gt_set (by rw [h.lt.lk]; exact hul) _ _
  have hll : ∀ x, gt (lookS { s with path := A ++ [u] } u v).lowest x = if x = u then min (gt s.lowest u) (gt s.lowest v) else gt s.lowest x := fun x => by
    show gt (if gt s.number v = 0 then s.lowest.set u _ else s.lowest) x = _
    rw [if_pos hv0]
    exact gt_set (by rw [h.lt.ll]; exact hul) _ _
  have hle : ∀ x, gt (lookS { s with path := A ++ [u] } u v).lowest x ≤ gt s.lowest x := fun x => by
    rw [hll]
    split
    · rename_i hc; rw [hc]; exact Nat.min_le_left _ _
    · exact Nat.le_refl _
  have hmem : ∀ x, x ∈ s.path ↔ x ∈ A ++ [u] ∨ x = v := fun x => by rw [hp]; simp [or_assoc]
  refine ⟨hL, ?_, ?_, h.cls, ?_, ?_, ?_, ?_, ?_, h.same, ?_⟩
  · intro x hx hn
    have hn' : x ∉ A ++ [u] := hn
    rw [hlk]
    have hxu : x ≠ u := fun e => hn' (by simp [e])
    rw [if_neg hxu]
    by_cases ev : x = v
    · rw [ev]; exact hd
    · exact h.off x hx (fun hm => ((hmem x).1 hm).elim hn' ev)
  · intro x k y hk hxy
    rw [hlk] at hk
    show gt s.place y ≠ 0
    by_cases hx : x = u
    · rw [if_pos hx] at hk
      by_cases hk2 : k < gt s.looked u
      · exact h.lkf u k y hk2 (hx ▸ hxy)
      · have : k = gt s.looked u := by omega
        rw [hx, this, hed] at hxy
        exact (Option.some.inj hxy) ▸ (h.lt.opo v hvo).1
    · rw [if_neg hx] at hk
      exact h.lkf x k y hk hxy
  · intro x hx k y hk hxy hy
    have hx' : x ∈ s.path := (hmem x).2 (.inl hx)
    rw [hlk] at hk
    show _ ≤ gt s.place y
    by_cases hxu : x = u
    · rw [if_pos hxu] at hk
      by_cases hk2 : k < gt s.looked u
      · exact Nat.le_trans (hle x) (h.onl x hx' k y (hxu ▸ hk2) hxy hy)
      · have : k = gt s.looked u := by omega
        rw [hxu, this, hed] at hxy
        have hyv : v = y := Option.some.inj hxy
        rw [hll, if_pos hxu, ← hyv]
        exact Nat.le_trans (Nat.min_le_right _ _) (h.low v hvo).1
    · rw [if_neg hxu] at hk
      exact Nat.le_trans (hle x) (h.onl x hx' k y hk hxy hy)
  · intro x hx hxp q hq ho k y hxy hy
    have hxp' : x ∉ A ++ [u] := hxp
    have hq' : q ∈ A ++ [u] := hq
    have hqp := (hmem q).2 (.inl hq')
    show _ ≤ gt s.place y
    rcases Nat.lt_or_ge (gt s.place x) (gt s.place v) with hxv | hxv
    · have hxn : x ∉ s.path := fun hm => ((hmem x).1 hm).elim hxp' (fun e => by rw [e] at hxv; omega)
      refine Nat.le_trans (hle q) (h.ofl x hx hxn q hqp ⟨ho.1, fun r hr hlt => ?_⟩ k y hxy hy)
      rcases (hmem r).1 hr with hr | hr
      · exact ho.2 r hr hlt
      · rw [hr] at hlt; omega
    · have hqu : q = u := by
        have h5 : gt s.place u < gt s.place v := h.lt.endmax hp u (by simp)
        have h6 := ho.2 u (show u ∈ A ++ [u] by simp) (show gt s.place u < gt s.place x by omega)
        have h7 : gt s.place q ≤ gt s.place u := by
          rcases List.mem_append.1 hq' with hq2 | hq2
          · have := (hL1.endmax (A := A) (u := u) rfl) q hq2
            exact Nat.le_of_lt this
          · have : q = u := by simpa using hq2
            rw [this]; exact Nat.le_refl _
        have h6' : gt s.place u ≤ gt s.place q := h6
        exact h.lt.inj (h.lt.pin hqp) huo (by omega)
      rw [hll, if_pos hqu]
      refine Nat.le_trans (Nat.min_le_right _ _) ?_
      by_cases exv : x = v
      · have hk := Nat.lt_of_lt_of_le (nx_deg (exv ▸ hxy)) hd
        exact h.onl v hvp k y hk (exv ▸ hxy) hy
      · have hlt : gt s.place v < gt s.place x := by
          rcases Nat.lt_or_ge (gt s.place v) (gt s.place x) with h8 | h8
          · exact h8
          · exact absurd (h.lt.inj hx hvo (by omega)) exv
        have hxn : x ∉ s.path := fun hm => ((hmem x).1 hm).elim hxp' exv
        refine h.ofl x hx hxn v hvp ⟨hlt, fun r hr _ => ?_⟩ k y hxy hy
        rcases (hmem r).1 hr with hr | hr
        · exact Nat.le_of_lt (h.lt.endmax hp r hr)
        · rw [hr]; exact Nat.le_refl _
  · intro x hx
    obtain ⟨h1, z, hz, h2, h3⟩ := h.low x hx
    refine ⟨Nat.le_trans (hle x) h1, ?_⟩
    show ∃ z ∈ s.opn, _ = gt s.place z ∧ _
    rw [hll]
    by_cases hc : x = u
    · rw [if_pos hc]
      obtain ⟨-, z', hz', h2', h3'⟩ := h.low v hvo
      by_cases hm : gt s.lowest u ≤ gt s.lowest v
      · rw [Nat.min_eq_left hm, ← hc]; exact ⟨z, hz, h2, h3⟩
      · rw [Nat.min_eq_right (by omega)]
        exact ⟨z', hz', h2', hc ▸ (Re.one hed).trans h3'⟩
    · rw [if_neg hc]; exact ⟨z, hz, h2, h3⟩
  · intro x hx hn
    have hn' : x ∉ A ++ [u] := hn
    refine Nat.lt_of_le_of_lt (hle x) ?_
    by_cases ev : x = v
    · rw [ev]; exact hlo
    · exact h.lowo x hx (fun hm => ((hmem x).1 hm).elim hn' ev)
  · intro p hpp x hx hle2
    exact h.pre p ((hmem p).2 (.inl hpp)) x hx hle2
  · intro x hx
    obtain ⟨p, hp1, hp2⟩ := h.own x hx
    rcases (hmem p).1 hp1 with hp1 | hp1
    · exact ⟨p, hp1, hp2⟩
    · refine ⟨u, by show u ∈ A ++ [u]; simp, ?_⟩
      have := h.lt.endmax hp u (by simp)
      rw [hp1] at hp2
      show gt s.place u ≤ gt s.place x
      omega
/-- What holds between two steps. -/
def Jn (G : List (List Nat)) (s : SS) : Prop := Fu G s ∨ (Lt G s ∧ ∃ A u v, s.path = A ++ [u] ∧ nx G u (gt s.looked u) = some v ∧ gt s.place v ≠ 0 ∧ Fu G (lookS s u v))
theorem Jn.lt (h : Jn G s) : Lt G s := h.elim (·.lt) (·.1)
theorem Jn.fu (h : Jn G s) (hp : s.path = []) : Fu G s := by
  rcases h with h | ⟨-, A, u, v, h1, -⟩
  · exact h
  · rw [hp] at h1; simp at h1
theorem step_jn (hG : ValidG G) (h : Jn G s) (hp : s.path ≠ []) : Jn G (stepS G s) := by
  rcases path_cases s.path with e | ⟨A, u, e⟩
  · exact absurd e hp
  have hend : endS s = u := endS_app e
  rcases h with h | ⟨hL, A', u', v, h1, h2, h3, h4⟩
  · unfold stepS
    rw [hend]
    cases he : nx G u (gt s.looked u) with
    | some v =>
      simp only
      by_cases hv : gt s.place v = 0
      · rw [if_pos hv]
        exact .inl (enter_fu h (hG u _ v he) hv (.inr (by rw [hend]; exact he)))
      · rw [if_neg hv]
        exact .inl (look_fu h e he hv)
    | none =>
      simp only
      have hd := nx_none he
      by_cases hlo : gt s.lowest u < gt s.place u
      · rcases path_cases A with rfl | ⟨B, q, rfl⟩
        · exfalso
          have hup : u ∈ s.path := by rw [e]; simp
          obtain ⟨-, z, hz, g2, -⟩ := h.low u (h.lt.pin hup)
          obtain ⟨p, hp1, hp2⟩ := h.own z hz
          rw [e] at hp1
          have : p = u := by simpa using hp1
          rw [this] at hp2
          omega
        · refine .inr ⟨leave_lt h.lt e, B, q, u, by rw [(leave_same s u).2.2.2.1, e]; simp, ?_, ?_, back_fu h e hd hlo⟩
          · rw [(leave_same s u).2.2.1]
            exact h.lt.chain B q u [] (by rw [e]; simp)
          · rw [(leave_same s u).1]
            exact (h.lt.opo u (h.lt.pin (by rw [e]; simp))).1
      · exact .inl (close_fu h e hd hlo)
  · have hu : u' = u := by
      rw [e] at h1
      have := List.append_inj' h1 rfl
      simpa using this.2.symm
    subst hu
    unfold stepS
    rw [hend, h2]
    simp only
    rw [if_neg h3]
    exact .inl h4
end
end Go.Proofs.Ytijohaeiiidcpaa
