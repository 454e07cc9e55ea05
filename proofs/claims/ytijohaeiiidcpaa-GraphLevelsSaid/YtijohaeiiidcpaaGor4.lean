/-
  PLAIN. The users are not too many.
-/
import Derived.Test.YtijohaeiiidcpaaGor3
namespace Go.Proofs.Ytijohaeiiidcpaa
def Sm (b : Nat) (s : OU) : Prop := ∀ x, (lAt s.users x).length ≤ b ∧ gt s.waits x ≤ b
theorem ed_small {P : List Nat} {s : OU} {b u v : Nat} (hv : gt P v < s.users.length) (hu : gt P u < s.waits.length) (h : Sm b s) : Sm (b + 1) (edS P s u v) := by
  unfold edS
  by_cases e : gt P v = gt P u
  · rw [if_pos e]
    exact fun x => ⟨by have := (h x).1; omega, by have := (h x).2; omega⟩
  · rw [if_neg e]
    intro x
    constructor
    · show (lAt (s.users.set _ _) x).length ≤ _
      rw [lAt_set hv]
      split
      · rw [List.length_append]
        have := (h (gt P v)).1
        show _ + 1 ≤ _
        omega
      · have := (h x).1; omega
    · show gt (s.waits.set _ _) x ≤ _
      rw [gt_set hu]
      split
      · have := (h (gt P u)).2; omega
      · have := (h x).2; omega
theorem row_small {P : List Nat} {G : List (List Nat)} {m u b : Nat} {s : OU} (hP : ∀ x, x < G.length → gt P x < m) (hV : ValidG G) (hu : u < G.length) (h : OuI P m (Ed G u 0) s) (hs : Sm b s) : ∀ k, k ≤ (lAt G u).length → Sm (b + k) (rowS P G u s k)
  | 0, _ => hs
  | k + 1, hk => by
    have hkl : k < (lAt G u).length := by omega
    have hx : nx G u k = some ((lAt G u)[k]) := List.getElem?_eq_getElem hkl
    have ho := row_ou hP hV hu h k (by omega)
    rw [rowS_succ hx]
    exact ed_small (by rw [ho.lu]; exact hP _ (hV u k _ hx)) (by rw [ho.lw]; exact hP u hu) (row_small hP hV hu h hs k (by omega))
theorem us_small {P : List Nat} {G : List (List Nat)} {m d : Nat} (hP : ∀ x, x < G.length → gt P x < m) (hV : ValidG G) (hD : ∀ u, degG G u ≤ d) : ∀ u, u ≤ G.length → Sm (u * d) (usK P G m u)
  | 0, _ => fun x => by
    constructor
    · have : lAt (List.replicate m ([] : List Nat)) x = [] := by
        show (List.replicate m ([] : List Nat)).getD x [] = []
        rw [List.getD_eq_getElem?_getD, List.getElem?_replicate]
        split <;> rfl
      show (lAt (List.replicate m ([] : List Nat)) x).length ≤ _
      rw [this]
      exact Nat.zero_le _
    · show gt (zeros m) x ≤ _
      rw [zget]
      exact Nat.zero_le _
  | u + 1, hu => by
    rw [usK_succ]
    have h1 := row_small hP hV (by omega) (us_ou hP hV u (by omega)) (us_small hP hV hD u (by omega)) _ (Nat.le_refl _)
    have h2 : (lAt G u).length ≤ d := hD u
    intro x
    have h3 := h1 x
    rw [Nat.succ_mul]
    exact ⟨by omega, by omega⟩
/-- The bounds at every point of the loops. -/
theorem row_bound {P : List Nat} {G : List (List Nat)} {m u k : Nat} (hP : ∀ x, x < G.length → gt P x < m) (hV : ValidG G) (hn : G.length ≤ 1000000) (hD : ∀ u, degG G u ≤ 1000000) (hu : u < G.length) (hk : k ≤ (lAt G u).length) : Sm 1000000000000 (rowS P G u (usK P G m u) k) := by
  have h1 := row_small hP hV hu (us_ou hP hV u (by omega)) (us_small hP hV hD u (by omega)) k hk
  have h2 : u * 1000000 + k ≤ 1000000000000 := by have h3 : (lAt G u).length ≤ 1000000 := hD u; omega
  exact fun x => ⟨by have := (h1 x).1; omega, by have := (h1 x).2; omega⟩
end Go.Proofs.Ytijohaeiiidcpaa
