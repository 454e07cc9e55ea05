/-
  PLAIN. Of the lexer's functions on bytes: each part of a unit ends behind where it begins, and within the source.
-/
import Derived.Test.YtakojceggpljoaaGreatDoorLSpec
namespace Go.Proofs.YtakojceggpljoaaGreatDoor
open Go.RowKit
theorem hexV_bd {c d : Int} (h : hexV c = some d) : 48 ≤ c ∧ 0 ≤ d ∧ d ≤ 15 := by
  unfold hexV dg at h
  by_cases h1 : 48 ≤ c ∧ c ≤ 57
  · rw [if_pos (by simp; omega)] at h; injection h with h; omega
  · rw [if_neg (by simp; omega)] at h
    by_cases h2 : 97 ≤ c ∧ c ≤ 102
    · rw [if_pos h2] at h; injection h with h; omega
    · rw [if_neg h2] at h
      by_cases h3 : 65 ≤ c ∧ c ≤ 70
      · rw [if_pos h3] at h; injection h with h; omega
      · rw [if_neg h3] at h; cases h
theorem litBad_ne {α : Type} {s : ByteArray} {i0 i : Nat} {a : α} {e : Nat} (h : litBad s i0 i = RR.ok a e) : False := by
  unfold litBad at h; cases h
theorem hexR_ok {s : ByteArray} {i0 i : Nat} {c : Int} {e : Nat} (h : hexR s i0 i = .ok c e) : i < e ∧ e ≤ s.size ∧ 0 ≤ c ∧ c ≤ 255 := by
  unfold hexR at h
  cases h1 : hexV (byteAt s i) with
  | none => rw [h1] at h; exact (litBad_ne h).elim
  | some d =>
    rw [h1] at h
    cases h2 : hexV (byteAt s (i + 1)) with
    | none => simp only [h2] at h; exact (litBad_ne h).elim
    | some f =>
      simp only [h2] at h
      injection h with h h'
      have b1 := hexV_bd h1
      have b2 := hexV_bd h2
      have := byteAt_pos (s := s) (i := i + 1) (by omega)
      omega
theorem escR_ok {s : ByteArray} {i0 i : Nat} {c : Int} {e : Nat} (h : escR s i0 i = .ok c e) : i < e ∧ e ≤ s.size ∧ 0 ≤ c ∧ c ≤ 255 := by
  unfold escR at h
  have hp := @byteAt_pos s i
  have hb := byteAt_bd s i
  by_cases h1 : byteAt s i = 110
  · rw [if_pos h1] at h; injection h with h h'; have := hp (by omega); omega
  · rw [if_neg h1] at h
    by_cases h2 : byteAt s i = 116
    · rw [if_pos h2] at h; injection h with h h'; have := hp (by omega); omega
    · rw [if_neg h2] at h
      by_cases h3 : byteAt s i = 92 ∨ byteAt s i = 39 ∨ byteAt s i = 34
      · rw [if_pos h3] at h; injection h with h h'; have := hp (by omega); omega
      · rw [if_neg h3] at h
        by_cases h4 : byteAt s i = 120
        · rw [if_pos h4] at h; have := hexR_ok h; omega
        · rw [if_neg h4] at h; exact (litBad_ne h).elim
theorem prn_bd {c : Int} (h : prn c ≠ false) : 32 ≤ c ∧ c ≤ 126 := by
  unfold prn at h; simp at h; exact h
theorem litR_ok {s : ByteArray} {q : Int} {i0 i : Nat} {c : Int} {e : Nat} (h : litR s q i0 i = .ok c e) : i < e ∧ e ≤ s.size ∧ 0 ≤ c ∧ c ≤ 255 := by
  unfold litR at h
  have hp := @byteAt_pos s i
  have hb := byteAt_bd s i
  by_cases h1 : byteAt s i = 92
  · rw [if_pos h1] at h; have := escR_ok h; omega
  · rw [if_neg h1] at h
    by_cases h2 : byteAt s i = q ∨ prn (byteAt s i) = false
    · rw [if_pos h2] at h; exact (litBad_ne h).elim
    · rw [if_neg h2] at h; injection h with h h'
      have := prn_bd (fun hc => h2 (.inr hc))
      have := hp (by omega)
      omega
theorem chrR_ok {s : ByteArray} {i : Nat} {t : Tk} {e : Nat} (h : chrR s i = .ok t e) : i < e ∧ e ≤ s.size := by
  unfold chrR at h
  cases h1 : litR s 39 i (i + 1) with
  | bad f => simp only [h1] at h; cases h
  | ok c f =>
    simp only [h1] at h
    have b := litR_ok h1
    by_cases h2 : byteAt s f = 39
    · rw [if_pos h2] at h; injection h with h h'; have := byteAt_pos (s := s) (i := f) (by omega); omega
    · rw [if_neg h2] at h; exact (litBad_ne h).elim
theorem txtF_ok {s : ByteArray} {i0 : Nat} (k : Nat) : ∀ {i : Nat} {l : List UInt8} {t : Tk} {e : Nat}, txtF s i0 k i l = .ok t e → i < e ∧ e ≤ s.size := by
  induction k with
  | zero => intro i l t e h; cases h
  | succ k ih =>
    intro i l t e h
    unfold txtF at h
    by_cases h2 : byteAt s i = 34
    · rw [if_pos h2] at h; injection h with h h'; have := byteAt_pos (s := s) (i := i) (by omega); omega
    · rw [if_neg h2] at h
      cases h1 : litR s 34 i0 i with
      | bad f => simp only [h1] at h; cases h
      | ok c f =>
        simp only [h1] at h
        have b := litR_ok h1
        by_cases h3 : 200 < l.length + 1
        · rw [if_pos h3] at h; cases h
        · rw [if_neg h3] at h; have := ih h; omega
theorem dg_bd {c : Int} (h : dg c = true) : 48 ≤ c ∧ c ≤ 57 := by unfold dg at h; simp at h; exact h
theorem intF_ok {s : ByteArray} {i0 : Nat} (k : Nat) : ∀ {i : Nat} {n : Int} {t : Tk} {e : Nat}, i + k = s.size → intF s i0 k i n = .ok t e → i ≤ e ∧ e ≤ s.size := by
  induction k with
  | zero => intro i n t e hk h; injection h with h h'; omega
  | succ k ih =>
    intro i n t e hk h
    unfold intF at h
    by_cases h1 : dg (byteAt s i) = true
    · rw [if_pos h1] at h
      by_cases h2 : n > (9223372036854775807 - (byteAt s i - 48)) / 10
      · rw [if_pos h2] at h; cases h
      · rw [if_neg h2] at h; have := ih (by omega) h; omega
    · rw [if_neg h1] at h; injection h with h h'; omega
theorem intR_ok {s : ByteArray} {i : Nat} {t : Tk} {e : Nat} (hd : dg (byteAt s i) = true) (h : intR s i = .ok t e) : i < e ∧ e ≤ s.size := by
  have b := dg_bd hd
  have hi := byteAt_pos (s := s) (i := i) (by omega)
  unfold intR at h
  obtain ⟨k, hk⟩ : ∃ k, s.size - i = k + 1 := ⟨s.size - i - 1, by omega⟩
  rw [hk] at h
  unfold intF at h
  rw [if_pos hd] at h
  by_cases h2 : (0 : Int) > (9223372036854775807 - (byteAt s i - 48)) / 10
  · rw [if_pos h2] at h; cases h
  · rw [if_neg h2] at h; have := intF_ok k (by omega) h; omega
theorem comF_ok {s : ByteArray} {i0 : Nat} (k : Nat) : ∀ {i : Nat} {d : Int} {u : Unit} {e : Nat}, comF s i0 k i d = .ok u e → i < e ∧ e ≤ s.size := by
  induction k with
  | zero => intro i d u e h; cases h
  | succ k ih =>
    intro i d u e h
    unfold comF at h
    by_cases h0 : i < s.size
    · rw [if_pos h0] at h
      by_cases h1 : byteAt s i = 123 ∧ byteAt s (i + 1) = 45
      · rw [if_pos h1] at h
        have := byteAt_pos (s := s) (i := i + 1) (by omega)
        by_cases hd : d + 1 = 0
        · rw [if_pos hd] at h; injection h with h h'; omega
        · rw [if_neg hd] at h; have := ih h; omega
      · rw [if_neg h1] at h
        by_cases h2 : byteAt s i = 45 ∧ byteAt s (i + 1) = 125
        · rw [if_pos h2] at h
          have := byteAt_pos (s := s) (i := i + 1) (by omega)
          by_cases hd : d - 1 = 0
          · rw [if_pos hd] at h; injection h with h h'; omega
          · rw [if_neg hd] at h; have := ih h; omega
        · rw [if_neg h2] at h
          by_cases h3 : gd (byteAt s i) = false
          · rw [if_pos h3] at h; cases h
          · rw [if_neg h3] at h
            by_cases hd : d = 0
            · rw [if_pos hd] at h; injection h with h h'; omega
            · rw [if_neg hd] at h; have := ih h; omega
    · rw [if_neg h0] at h; cases h
theorem linF_ok {s : ByteArray} (k : Nat) : ∀ {i : Nat} {u : Unit} {e : Nat}, i + k = s.size → linF s k i = .ok u e → i ≤ e ∧ e ≤ s.size := by
  induction k with
  | zero => intro i u e hk h; injection h with h h'; omega
  | succ k ih =>
    intro i u e hk h
    unfold linF at h
    by_cases h1 : byteAt s i = 10
    · rw [if_pos h1] at h; injection h with h h'; omega
    · rw [if_neg h1] at h
      by_cases h2 : gd (byteAt s i) = false
      · rw [if_pos h2] at h; cases h
      · rw [if_neg h2] at h; have := ih (by omega) h; omega
theorem gd45 : gd 45 = true := by decide
theorem linR_ok {s : ByteArray} {i : Nat} {u : Unit} {e : Nat} (hi : byteAt s i = 45) (h : linR s i = .ok u e) : i < e ∧ e ≤ s.size := by
  have hl := byteAt_pos (s := s) (i := i) (by omega)
  unfold linR at h
  obtain ⟨k, hk⟩ : ∃ k, s.size - i = k + 1 := ⟨s.size - i - 1, by omega⟩
  rw [hk] at h
  unfold linF at h
  rw [hi, if_neg (by decide), gd45, if_neg (by decide)] at h
  have := linF_ok k (by omega) h; omega
theorem nmR_ok {s : ByteArray} {i0 : Nat} {q : ByteArray} {fr : Nat} {t : Tk} {e : Nat} (h : nmR s i0 q fr = .ok t e) : e = nE s fr := by
  unfold nmR at h
  by_cases h1 : 64 < nE s fr - fr
  · rw [if_pos h1] at h; cases h
  · rw [if_neg h1] at h; injection h with h h'; exact h'.symm
theorem rE_lt {p : Int → Bool} {s : ByteArray} {i : Nat} (h : i < s.size) (hp : p (byteAt s i) = true) : i < rE p s i := by
  have k := rE_end p (Nat.le_of_lt h)
  rcases Nat.lt_or_eq_of_le k.lo with h1 | h1
  · exact h1
  · have := k.stop (by omega); rw [← h1, hp] at this; cases this
theorem wd_of_stt {c : Int} (h : stt c = true) : wd c = true := by unfold wd; rw [h]; rfl
theorem stt_bd {c : Int} (h : stt c = true) : 65 ≤ c ∧ c ≤ 122 := by
  unfold stt lw up at h; simp at h; omega
theorem nE_lt {s : ByteArray} {i : Nat} (h : i < s.size) (hp : stt (byteAt s i) = true ∨ sy (byteAt s i) = true) : i < nE s i := by
  unfold nE
  split
  · rename_i hs; exact rE_lt h (wd_of_stt hs)
  · rename_i hs; exact rE_lt h (by rcases hp with hp | hp; exact absurd hp hs; exact hp)
theorem sy_0 : sy 0 = false := by decide
theorem sy_pos {s : ByteArray} {i : Nat} (h : sy (byteAt s i) = true) : i < s.size := by
  by_cases hl : i < s.size
  · exact hl
  · rw [byteAt_ge (by omega), sy_0] at h; cases h
theorem stt_pos {s : ByteArray} {i : Nat} (h : stt (byteAt s i) = true) : i < s.size := byteAt_pos (by have := stt_bd h; omega)
theorem idR_ok {s : ByteArray} {i : Nat} {t : Tk} {e : Nat} (hs : stt (byteAt s i) = true) (h : idR s i = .ok t e) : i < e ∧ e ≤ s.size := by
  have hl := stt_pos hs
  unfold idR at h
  split at h
  · rename_i hc
    simp at hc
    split at h
    · cases h
    · rw [nmR_ok h]
      have h1 := rE_lt hl (wd_of_stt hs)
      have h2 := nE_bd (s := s) (i := rE wd s i + 1) (by omega)
      omega
  · rw [nmR_ok h]
    exact ⟨nE_lt hl (.inl hs), (nE_bd (Nat.le_of_lt hl)).2⟩
/-- Of a run of minus signs the first byte. -/
theorem om_head {s : ByteArray} {i e : Nat} (h : om (s.extract i e).data.toList = true) : byteAt s i = 45 := by
  unfold om at h
  simp only [Bool.and_eq_true, decide_eq_true_eq, List.all_eq_true] at h
  obtain ⟨h1, h2⟩ := h
  have hz : (s.extract i e).size = (s.extract i e).data.toList.length := Lib.size_eq _
  have hz2 : (s.extract i e).size = min e s.size - i := by simp
  have hi : i < s.size := by omega
  have h0 : 0 < (s.extract i e).data.toList.length := by omega
  have h3 := h2 _ (List.getElem_mem h0)
  rw [byteAt_lt hi]
  have h4 : (s.extract i e).data.toList[0]'h0 = s[i] := by
    have hh : (s.extract i e)[0]'(by omega) = s[i] := by simp [ByteArray.getElem_extract]
    exact hh
  rw [h4] at h3
  unfold mn at h3
  simp at h3
  rw [h3]; rfl
/-- A unit ends behind where it begins, within the source. -/
theorem unit_end {s : ByteArray} {i : Nat} (hi : i < s.size) : (∀ e, unit s i = .skip e → i < e ∧ e ≤ s.size) ∧ (∀ t e, unit s i = .tok t e → i < e ∧ e ≤ s.size) := by
  have ru : ∀ {r : RR Tk}, (∀ t e, r = .ok t e → i < e ∧ e ≤ s.size) → (∀ e, r.u = .skip e → i < e ∧ e ≤ s.size) ∧ (∀ t e, r.u = .tok t e → i < e ∧ e ≤ s.size) := by
    intro r h
    cases r with
    | ok a f => exact ⟨fun e he => by (cases he), fun t e he => by (injection he with a1 a2; subst a2; exact h _ _ rfl)⟩
    | bad f => exact ⟨fun e he => by (cases he), fun t e he => by (cases he)⟩
  have rv : ∀ {r : RR Unit}, (∀ t e, r = .ok t e → i < e ∧ e ≤ s.size) → (∀ e, r.v = .skip e → i < e ∧ e ≤ s.size) ∧ (∀ t e, r.v = .tok t e → i < e ∧ e ≤ s.size) := by
    intro r h
    cases r with
    | ok a f => exact ⟨fun e he => by (injection he with a2; subst a2; exact h _ _ rfl), fun t e he => by (cases he)⟩
    | bad f => exact ⟨fun e he => by (cases he), fun t e he => by (cases he)⟩
  unfold unit
  by_cases h1 : byteAt s i = 123 ∧ byteAt s (i + 1) = 45
  · rw [if_pos h1]; exact rv fun t e he => comF_ok _ he
  rw [if_neg h1]
  by_cases h2 : om (s.extract i (rE sy s i)).data.toList = true
  · rw [if_pos h2]; exact rv fun t e he => linR_ok (om_head h2) he
  rw [if_neg h2]
  by_cases h3 : stt (byteAt s i) = true
  · rw [if_pos h3]; exact ru fun t e he => idR_ok h3 he
  rw [if_neg h3]
  by_cases h4 : sy (byteAt s i) = true
  · rw [if_pos h4]
    refine ru fun t e he => ?_
    rw [nmR_ok he]
    exact ⟨nE_lt hi (.inr h4), (nE_bd (Nat.le_of_lt hi)).2⟩
  rw [if_neg h4]
  by_cases h5 : dg (byteAt s i) = true
  · rw [if_pos h5]; exact ru fun t e he => intR_ok h5 he
  rw [if_neg h5]
  by_cases h6 : byteAt s i = 39
  · rw [if_pos h6]; exact ru fun t e he => chrR_ok he
  rw [if_neg h6]
  by_cases h7 : byteAt s i = 34
  · rw [if_pos h7]; exact ru fun t e he => by have := txtF_ok _ he; omega
  rw [if_neg h7]
  by_cases h8 : spc (byteAt s i) = true
  · rw [if_pos h8]
    exact ⟨fun e he => by (cases he), fun t e he => by injection he with a1 a2; omega⟩
  rw [if_neg h8]
  exact ⟨fun e he => by (cases he), fun t e he => by (cases he)⟩
end Go.Proofs.YtakojceggpljoaaGreatDoor
