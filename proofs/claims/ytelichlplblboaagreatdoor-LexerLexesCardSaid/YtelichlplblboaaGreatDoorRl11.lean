/-
  WALKS. The reference's Lex; equal.
-/
import Derived.Test.YtelichlplblboaaGreatDoorRl10
import Derived.Test.YtelichlplblboaaGreatDoorLd
namespace Go.Proofs.YtelichlplblboaaGreatDoor
open Go.RowKit Go.Maps
theorem FB.new2 (w : World) : FB (w.alloc (.cells #[.int .i64 0, .string ⟨#[]⟩, .int .i64 0, .int .i64 0] 26)) w.heap.size := new_block w _
theorem FB.grown {w w' : World} {g : Nat} {row : Option Nat} (h : FB w g) (hg : w.grownBy w' row) (hne : row ≠ some g) : FB w' g := (hg.block g (lt_of_block h) (fun e => hne e.symm)).trans h
abbrev fZ (w : World) : World := w.alloc (.cells #[.int .i64 0, .string ⟨#[]⟩, .int .i64 0, .int .i64 0] 26)
theorem fZ_only (w : World) : Only (fun _ => False) w (fZ w) := Only.of_below ((Below.refl _ _).alloc (Nat.le_refl _) _)
theorem fZ_size (w : World) : (fZ w).heap.size = w.heap.size + 1 := by show (w.heap.push _).size = _; simp
theorem own_set4 {w w1 : World} {g : Nat} (h : Only (fun _ => False) w w1) (hg : w.heap.size ≤ g) (v0 v1 v2 v3 : Value) : Only (fun _ => False) w ((((w1.setCell ⟨g, 0, none⟩ v0).setCell ⟨g, 1, none⟩ v1).setCell ⟨g, 2, none⟩ v2).setCell ⟨g, 3, none⟩ v3) :=
  h.then (Only.set4 w1 g _ _ _ _) (fun i hi => .inr (by omega))
/-- No unit is a token without a class. -/
theorem cls_run {s : ByteArray} {i : Nat} (hs : stt (byteAt s i) = true ∨ (sy (byteAt s i) = true ∧ om (s.extract i (nE s i)).data.toList = false)) (hi : i < s.size) (hl : ¬ 64 < nE s i - i) : opo (cls (s.extract i (nE s i))) ≠ 0 := by
  have hE := nE_lt hi (hs.elim .inl (fun h => .inr h.1))
  have hEs := (nE_bd (s := s) (i := i) (Nat.le_of_lt hi)).2
  have hz := ext_size (s := s) (Nat.le_of_lt hE) hEs
  have hall : ∀ (p : Int → Bool), (∀ k, i ≤ k → k < nE s i → p (byteAt s k) = true) → (s.extract i (nE s i)).data.toList.all (fun c => p (c.toNat : Int)) = true := by
    intro p hp
    rw [List.all_eq_true]
    intro c hc
    obtain ⟨k, hk, rfl⟩ := List.getElem_of_mem hc
    have hk' : k < (s.extract i (nE s i)).size := by rw [Lib.size_eq]; exact hk
    have h1 : (s.extract i (nE s i)).data.toList[k] = (s.extract i (nE s i))[k] := rfl
    have h2 : (s.extract i (nE s i))[k] = s[i + k] := by simp [ByteArray.getElem_extract]
    rw [h1, h2]
    have := hp (i + k) (by omega) (by omega)
    rwa [byteAt_lt (by omega)] at this
  obtain ⟨c, r, hd, hc⟩ := ext_head hE hEs
  have hl64 : (s.extract i (nE s i)).data.toList.length ≤ 64 := by rw [← Lib.size_eq, hz]; omega
  have hcs : ∀ t : ByteArray, (wordB t.data.toList = true ∨ (wordB t.data.toList = false ∧ symbolB t.data.toList = true)) → opo (cls t) ≠ 0 := by
    intro t h
    unfold cls
    rcases h with h | ⟨h, h2⟩
    · rw [h]; simp only [if_true]; unfold clsW; split
      · decide
      · split <;> decide
    · rw [h, h2]; simp only [Bool.false_eq_true, if_false, if_true]; unfold clsS; split
      · decide
      · split <;> decide
  apply hcs
  rcases hs with hs | ⟨hs, hom⟩
  · left
    have ha := hall wd (fun k h1 h2 => (rE_end wd (Nat.le_of_lt hi)).all k h1 (by rw [nE_stt hs] at h2; exact h2))
    unfold wordB
    rw [hd] at hl64 ha ⊢
    have hst : sttB c = true := by unfold sttB; rw [hc]; exact hs
    simp only [List.length_cons] at hl64 ⊢
    have ha' : (c :: r).all wdB = true := ha
    rw [ha']
    simp [hst]; omega
  · have hst : stt (byteAt s i) = false := by
      have hb := byteAt_bd s i
      exact ((byte_classes _ hb.1 hb.2).1 hs).1
    have ha := hall sy (fun k h1 h2 => (rE_end sy (Nat.le_of_lt hi)).all k h1 (by rw [nE_sy hst] at h2; exact h2))
    right
    have hw : wordB (s.extract i (nE s i)).data.toList = false := by
      unfold wordB; rw [hd]
      have : sttB c = false := by unfold sttB; rw [hc]; exact hst
      simp [this]
    refine ⟨hw, ?_⟩
    have ha' : (s.extract i (nE s i)).data.toList.all syB = true := ha
    unfold symbolB
    rw [ha']
    unfold om at hom
    have h1 : 1 ≤ (s.extract i (nE s i)).data.toList.length := by rw [hd]; simp
    rw [decide_eq_true h1, decide_eq_true hl64]
    by_cases h2 : 2 ≤ (s.extract i (nE s i)).data.toList.length
    · rw [decide_eq_true h2, Bool.true_and] at hom
      rw [hom]; rfl
    · rw [decide_eq_true (show (s.extract i (nE s i)).data.toList.length = 1 by omega)]; simp
theorem unit_op {s : ByteArray} {i e : Nat} {t : Tk} (hi : i < s.size) (h : unit s i = .tok t e) : t.op ≠ 0 := by
  have hb := byteAt_bd s i
  obtain ⟨k1, -, -, -⟩ := byte_classes (byteAt s i) hb.1 hb.2
  have nm : ∀ {i0 : Nat} {q : ByteArray} {j e : Nat} {t : Tk}, nmR s i0 q j = .ok t e → (stt (byteAt s j) = true ∨ (sy (byteAt s j) = true ∧ om (s.extract j (nE s j)).data.toList = false)) → j < s.size → t.op ≠ 0 := by
    intro i0 q j e t h hs hj
    unfold nmR at h
    by_cases hl : 64 < nE s j - j
    · rw [if_pos hl] at h; cases h
    · rw [if_neg hl] at h
      injection h with h h'
      rw [← h]
      exact cls_run hs hj hl
  unfold unit at h
  by_cases h0 : byteAt s i = 123 ∧ byteAt s (i + 1) = 45
  · rw [if_pos h0] at h; cases hc : comR s i <;> rw [hc] at h <;> cases h
  rw [if_neg h0] at h
  by_cases h2 : om (s.extract i (rE sy s i)).data.toList = true
  · rw [if_pos h2] at h; cases hc : linR s i <;> rw [hc] at h <;> cases h
  rw [if_neg h2] at h
  by_cases h3 : stt (byteAt s i) = true
  · rw [if_pos h3] at h
    cases hc : idR s i with
    | bad f => rw [hc] at h; cases h
    | ok t' e' =>
      rw [hc] at h
      injection h with h h'
      subst h
      unfold idR at hc
      split at hc
      · rename_i hq
        split at hc
        · cases hc
        · simp only [Bool.and_eq_true, decide_eq_true_eq] at hq
          obtain ⟨⟨⟨q1, q2⟩, q3⟩, q4⟩ := hq
          have hlt : rE wd s i + 1 < s.size := by
            by_cases hl : rE wd s i + 1 < s.size
            · exact hl
            · have := (nE_bd (s := s) (i := rE wd s i + 1) (by omega)).2
              rw [qok_nil (by omega)] at q4; cases q4
          refine nm hc ?_ hlt
          cases hst : stt (byteAt s (rE wd s i + 1))
          · right
            have hn := nE_sy hst
            cases hsy : sy (byteAt s (rE wd s i + 1))
            · have e : rE sy s (rE wd s i + 1) = rE wd s i + 1 := rE_stop (Nat.le_of_lt hlt) (fun _ => hsy)
              rw [hn, e, qok_nil (Nat.le_refl _)] at q4; cases q4
            · refine ⟨rfl, ?_⟩
              unfold qok at q4
              rw [Bool.and_eq_true] at q4
              simpa using q4.2
          · exact .inl rfl
      · exact nm hc (.inl h3) hi
  rw [if_neg h3] at h
  by_cases h4 : sy (byteAt s i) = true
  · rw [if_pos h4] at h
    cases hc : nmR s i nil8 i with
    | bad f => rw [hc] at h; cases h
    | ok t' e' =>
      rw [hc] at h
      injection h with h h'
      subst h
      exact nm hc (.inr ⟨h4, by rw [nE_sy (k1 h4).1]; simpa using h2⟩) hi
  rw [if_neg h4] at h
  have i5 : ∀ (k j : Nat) (n : Int) (t : Tk) (e : Nat), intF s i k j n = .ok t e → t.op = 5 := by
    intro k
    induction k with
    | zero => intro j n t e h; injection h with h h'; rw [← h]
    | succ k ih =>
      intro j n t e h
      unfold intF at h
      split at h
      · split at h
        · cases h
        · exact ih _ _ _ _ h
      · injection h with h h'; rw [← h]
  by_cases h5 : dg (byteAt s i) = true
  · rw [if_pos h5] at h
    cases hc : intR s i with
    | bad f => rw [hc] at h; cases h
    | ok t' e' => rw [hc] at h; injection h with h h'; subst h; rw [i5 _ _ _ _ _ hc]; decide
  rw [if_neg h5] at h
  by_cases h6 : byteAt s i = 39
  · rw [if_pos h6] at h
    cases hc : chrR s i with
    | bad f => rw [hc] at h; cases h
    | ok t' e' =>
      rw [hc] at h; injection h with h h'; subst h
      unfold chrR at hc
      split at hc
      · cases hc
      · split at hc
        · injection hc with hc hc'; rw [← hc]; simp
        · cases hc
  rw [if_neg h6] at h
  have t7 : ∀ (k j : Nat) (l : List UInt8) (t : Tk) (e : Nat), txtF s i k j l = .ok t e → t.op = 7 := by
    intro k
    induction k with
    | zero => intro j l t e h; cases h
    | succ k ih =>
      intro j l t e h
      unfold txtF at h
      split at h
      · injection h with h h'; rw [← h]
      · split at h
        · cases h
        · split at h
          · cases h
          · exact ih _ _ _ _ h
  by_cases h7 : byteAt s i = 34
  · rw [if_pos h7] at h
    cases hc : txtR s i with
    | bad f => rw [hc] at h; cases h
    | ok t' e' => rw [hc] at h; injection h with h h'; subst h; rw [t7 _ _ _ _ _ hc]; decide
  rw [if_neg h7] at h
  split at h
  · injection h with h h'; rw [← h]; simp
  · cases h
end Go.Proofs.YtelichlplblboaaGreatDoor
