/-
  PLAIN. Of the lexer's faults: each has a code that is not 0, and the place of a byte.
-/
import Derived.Test.YtakojceggpljoaaGreatDoorLSpec2
namespace Go.Proofs.YtakojceggpljoaaGreatDoor
open Go.RowKit
/-- f is a fault of s at some byte. -/
def IsF (s : ByteArray) (f : Flt) : Prop := ∃ (c : Int) (n : ByteArray) (a : Nat), c ≠ 0 ∧ f = flt s c n a
theorem IsF.mk' {s : ByteArray} {c : Int} {n : ByteArray} {a : Nat} (h : c ≠ 0) : IsF s (flt s c n a) := ⟨c, n, a, h, rfl⟩
theorem IsF.code {s : ByteArray} {f : Flt} (h : IsF s f) : f.code ≠ 0 := by obtain ⟨c, n, a, hc, rfl⟩ := h; exact hc
theorem IsF.place {s : ByteArray} {f : Flt} (h : IsF s f) : 1 ≤ f.line ∧ 1 ≤ f.col := by
  obtain ⟨c, n, a, hc, rfl⟩ := h
  have := pos_bd s a
  exact ⟨this.1, this.2.2.1⟩
theorem litF_is (s : ByteArray) (i0 i : Nat) : IsF s (litF s i0 i) := by
  unfold litF; split <;> exact IsF.mk' (by decide)
theorem litBad_is {α : Type} {s : ByteArray} {i0 i : Nat} {f : Flt} (h : (litBad s i0 i : RR α) = .bad f) : IsF s f := by
  unfold litBad at h; injection h with h; rw [← h]; exact litF_is s i0 i
theorem hexR_is {s : ByteArray} {i0 i : Nat} {f : Flt} (h : hexR s i0 i = .bad f) : IsF s f := by
  unfold hexR at h
  split at h
  · exact litBad_is h
  · split at h
    · exact litBad_is h
    · cases h
theorem escR_is {s : ByteArray} {i0 i : Nat} {f : Flt} (h : escR s i0 i = .bad f) : IsF s f := by
  unfold escR at h
  split at h
  · cases h
  split at h
  · cases h
  split at h
  · cases h
  split at h
  · exact hexR_is h
  · exact litBad_is h
theorem litR_is {s : ByteArray} {q : Int} {i0 i : Nat} {f : Flt} (h : litR s q i0 i = .bad f) : IsF s f := by
  unfold litR at h
  split at h
  · exact escR_is h
  split at h
  · exact litBad_is h
  · cases h
theorem chrR_is {s : ByteArray} {i : Nat} {f : Flt} (h : chrR s i = .bad f) : IsF s f := by
  unfold chrR at h
  split at h
  · rename_i hl; injection h with h; subst h; exact litR_is hl
  · split at h
    · cases h
    · exact litBad_is h
theorem txtF_is {s : ByteArray} {i0 : Nat} {f : Flt} (k : Nat) : ∀ {i : Nat} {l : List UInt8}, txtF s i0 k i l = .bad f → IsF s f := by
  induction k with
  | zero => intro i l h; injection h with h; rw [← h]; exact IsF.mk' (by decide)
  | succ k ih =>
    intro i l h
    unfold txtF at h
    split at h
    · cases h
    split at h
    · rename_i hl; injection h with h; subst h; exact litR_is hl
    · split at h
      · injection h with h; rw [← h]; exact IsF.mk' (by decide)
      · exact ih h
theorem intF_is {s : ByteArray} {i0 : Nat} {f : Flt} (k : Nat) : ∀ {i : Nat} {n : Int}, intF s i0 k i n = .bad f → IsF s f := by
  induction k with
  | zero => intro i n h; cases h
  | succ k ih =>
    intro i n h
    unfold intF at h
    split at h
    · split at h
      · injection h with h; rw [← h]; exact IsF.mk' (by decide)
      · exact ih h
    · cases h
theorem comF_is {s : ByteArray} {i0 : Nat} {f : Flt} (k : Nat) : ∀ {i : Nat} {d : Int}, comF s i0 k i d = .bad f → IsF s f := by
  induction k with
  | zero => intro i d h; injection h with h; rw [← h]; exact IsF.mk' (by decide)
  | succ k ih =>
    intro i d h
    unfold comF at h
    split at h
    · split at h
      · split at h
        · cases h
        · exact ih h
      split at h
      · split at h
        · cases h
        · exact ih h
      split at h
      · injection h with h; rw [← h]; exact IsF.mk' (by decide)
      · split at h
        · cases h
        · exact ih h
    · injection h with h; rw [← h]; exact IsF.mk' (by decide)
theorem linF_is {s : ByteArray} {f : Flt} (k : Nat) : ∀ {i : Nat}, linF s k i = .bad f → IsF s f := by
  induction k with
  | zero => intro i h; cases h
  | succ k ih =>
    intro i h
    unfold linF at h
    split at h
    · cases h
    split at h
    · injection h with h; rw [← h]; exact IsF.mk' (by decide)
    · exact ih h
theorem nmR_is {s : ByteArray} {i0 : Nat} {q : ByteArray} {fr : Nat} {f : Flt} (h : nmR s i0 q fr = .bad f) : IsF s f := by
  unfold nmR at h
  split at h
  · injection h with h; rw [← h]; exact IsF.mk' (by decide)
  · cases h
theorem idR_is {s : ByteArray} {i : Nat} {f : Flt} (h : idR s i = .bad f) : IsF s f := by
  unfold idR at h
  split at h
  · split at h
    · injection h with h; rw [← h]; exact IsF.mk' (by decide)
    · exact nmR_is h
  · exact nmR_is h
theorem u_bad {r : RR Tk} {f : Flt} (h : r.u = .bad f) : r = .bad f := by
  cases r with
  | ok a e => cases h
  | bad g => injection h with h; rw [h]
theorem v_bad {r : RR Unit} {f : Flt} (h : r.v = .bad f) : r = .bad f := by
  cases r with
  | ok a e => cases h
  | bad g => injection h with h; rw [h]
theorem unit_is {s : ByteArray} {i : Nat} {f : Flt} (h : unit s i = .bad f) : IsF s f := by
  unfold unit at h
  split at h
  · exact comF_is _ (v_bad h)
  split at h
  · exact linF_is _ (v_bad h)
  split at h
  · exact idR_is (u_bad h)
  split at h
  · exact nmR_is (u_bad h)
  split at h
  · exact intF_is _ (u_bad h)
  split at h
  · exact chrR_is (u_bad h)
  split at h
  · exact txtF_is _ (u_bad h)
  split at h
  · cases h
  · injection h with h; rw [← h]; exact IsF.mk' (by decide)
theorem lexF_is {s : ByteArray} {f : Flt} (k : Nat) : ∀ {i : Nat} {l : List Tok}, lexF s k i l = .bad f → IsF s f := by
  induction k with
  | zero => intro i l h; cases h
  | succ k ih =>
    intro i l h
    unfold lexF at h
    split at h
    · split at h
      · exact ih h
      split at h
      · rename_i hu; injection h with h; subst h; exact unit_is hu
      · exact ih h
      · split at h
        · injection h with h; rw [← h]; exact IsF.mk' (by decide)
        · exact ih h
    · cases h
theorem lexF_len {s : ByteArray} (k : Nat) : ∀ {i : Nat} {l r : List Tok}, l.length ≤ 16384 → lexF s k i l = .ok r → r.length ≤ 16384 := by
  induction k with
  | zero => intro i l r hl h; injection h with h; rw [← h]; exact hl
  | succ k ih =>
    intro i l r hl h
    unfold lexF at h
    split at h
    · split at h
      · exact ih hl h
      split at h
      · cases h
      · exact ih hl h
      · split at h
        · cases h
        · rename_i hn; exact ih (by rw [List.length_append]; simp; omega) h
    · injection h with h; rw [← h]; exact hl
end Go.Proofs.YtakojceggpljoaaGreatDoor
