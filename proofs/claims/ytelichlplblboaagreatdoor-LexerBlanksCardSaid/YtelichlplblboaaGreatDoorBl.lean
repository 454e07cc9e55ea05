/-
  PLAIN. Blanks and comments between tokens: a text that lexes to no tokens, before a line feed, is passed over wherever it stands.
-/
import Derived.Test.YtelichlplblboaaGreatDoorTxt
namespace Go.Proofs.YtelichlplblboaaGreatDoor
open Go.RowKit
theorem lexF_pre {s : ByteArray} (k : Nat) : ∀ {i : Nat} {l r : List Tok}, lexF s k i l = .ok r → l <+: r := by
  induction k with
  | zero => intro i l r h; injection h with h; rw [h]; exact List.prefix_refl _
  | succ k ih =>
    intro i l r h
    unfold lexF at h
    split at h
    · split at h
      · exact ih h
      split at h
      · cases h
      · exact ih h
      · split at h
        · cases h
        · exact (List.prefix_append l _).trans (ih h)
    · injection h with h; rw [h]; exact List.prefix_refl _
/-- The bytes of b stand in s at i, and a line feed behind them. -/
structure Sh (s b : ByteArray) (i : Nat) : Prop where
  has : Has s i (b.data.toList ++ [10])
theorem Sh.at' {s b : ByteArray} {i j : Nat} (h : Sh s b i) (hj : j < b.size) : byteAt s (i + j) = byteAt b j ∧ i + j < s.size := by
  have hl : j < b.data.toList.length := by rw [← Lib.size_eq]; exact hj
  have h1 := h.has.left j _ (List.getElem?_eq_getElem hl)
  have h2 : b.data.toList[j]? = some (b.data.toList[j]) := List.getElem?_eq_getElem hl
  exact ⟨by rw [(byte_get h1).2, (byte_get h2).2], (byte_get h1).1⟩
theorem Sh.end' {s b : ByteArray} {i : Nat} (h : Sh s b i) : byteAt s (i + b.size) = 10 ∧ i + b.size < s.size := by
  rw [Lib.size_eq]
  exact ⟨h.has.right.head, h.has.right.lt⟩
/-- A byte that is in b or the first behind it: the same, or 0 in b and a line feed in s. -/
theorem Sh.next {s b : ByteArray} {i j : Nat} (h : Sh s b i) (hj : j ≤ b.size) : byteAt s (i + j) = byteAt b j ∨ (byteAt b j = 0 ∧ byteAt s (i + j) = 10) := by
  rcases Nat.lt_or_eq_of_le hj with h1 | h1
  · exact .inl (h.at' h1).1
  · subst h1; exact .inr ⟨byteAt_ge (Nat.le_refl _), h.end'.1⟩
theorem comF_sh {s b : ByteArray} {i i0 j0 : Nat} (h : Sh s b i) (k : Nat) : ∀ {j k' e : Nat} {d : Int}, comF b j0 k j d = .ok () e → k ≤ k' → comF s i0 k' (i + j) d = .ok () (i + e) := by
  induction k with
  | zero => intro j k' e d hc; cases hc
  | succ k ih =>
    intro j k' e d hc hk
    obtain ⟨k', rfl⟩ : ∃ m, k' = m + 1 := ⟨k' - 1, by omega⟩
    unfold comF at hc ⊢
    by_cases hj : j < b.size
    · rw [if_pos hj] at hc
      obtain ⟨e0, l0⟩ := h.at' hj
      have e1 := h.next (j := j + 1) (by omega)
      rw [if_pos l0]
      have c1 : (byteAt s (i + j) = 123 ∧ byteAt s (i + j + 1) = 45) ↔ (byteAt b j = 123 ∧ byteAt b (j + 1) = 45) := by rw [e0, Nat.add_assoc]; rcases e1 with e1 | ⟨e1, e2⟩ <;> omega
      have c2 : (byteAt s (i + j) = 45 ∧ byteAt s (i + j + 1) = 125) ↔ (byteAt b j = 45 ∧ byteAt b (j + 1) = 125) := by rw [e0, Nat.add_assoc]; rcases e1 with e1 | ⟨e1, e2⟩ <;> omega
      by_cases h1 : byteAt b j = 123 ∧ byteAt b (j + 1) = 45
      · rw [if_pos h1] at hc
        rw [if_pos (c1.2 h1)]
        by_cases hd : d + 1 = 0
        · rw [if_pos hd] at hc ⊢; injection hc with hc hc'; rw [← hc', Nat.add_assoc]
        · rw [if_neg hd] at hc ⊢; rw [Nat.add_assoc]; exact ih hc (by omega)
      rw [if_neg h1] at hc
      rw [if_neg (fun x => h1 (c1.1 x))]
      by_cases h2 : byteAt b j = 45 ∧ byteAt b (j + 1) = 125
      · rw [if_pos h2] at hc
        rw [if_pos (c2.2 h2)]
        by_cases hd : d - 1 = 0
        · rw [if_pos hd] at hc ⊢; injection hc with hc hc'; rw [← hc', Nat.add_assoc]
        · rw [if_neg hd] at hc ⊢; rw [Nat.add_assoc]; exact ih hc (by omega)
      rw [if_neg h2] at hc
      rw [if_neg (fun x => h2 (c2.1 x)), e0]
      by_cases h3 : gd (byteAt b j) = false
      · rw [if_pos h3] at hc; cases hc
      · rw [if_neg h3] at hc ⊢
        by_cases hd : d = 0
        · rw [if_pos hd] at hc ⊢; injection hc with hc hc'; rw [← hc', Nat.add_assoc]
        · rw [if_neg hd] at hc ⊢; rw [Nat.add_assoc]; exact ih hc (by omega)
    · rw [if_neg hj] at hc; cases hc
theorem linF_sh {s b : ByteArray} {i : Nat} (h : Sh s b i) (k : Nat) : ∀ {j k' e : Nat}, j + k = b.size → linF b k j = .ok () e → k < k' → linF s k' (i + j) = .ok () (i + e) := by
  induction k with
  | zero =>
    intro j k' e hj hc hk
    injection hc with hc hc'
    subst hc'
    obtain ⟨k', rfl⟩ : ∃ m, k' = m + 1 := ⟨k' - 1, by omega⟩
    have := h.end'.1
    unfold linF
    rw [show i + j = i + b.size by omega, if_pos this]
  | succ k ih =>
    intro j k' e hj hc hk
    obtain ⟨k', rfl⟩ : ∃ m, k' = m + 1 := ⟨k' - 1, by omega⟩
    have e0 := (h.at' (j := j) (by omega)).1
    unfold linF at hc ⊢
    rw [e0]
    by_cases h1 : byteAt b j = 10
    · rw [if_pos h1] at hc ⊢; injection hc with hc hc'; rw [hc']
    · rw [if_neg h1] at hc ⊢
      by_cases h2 : gd (byteAt b j) = false
      · rw [if_pos h2] at hc; cases hc
      · rw [if_neg h2] at hc ⊢; rw [Nat.add_assoc]; exact ih (by omega) hc (by omega)
theorem rE_sh {s b : ByteArray} {i j : Nat} (h : Sh s b i) (hj : j ≤ b.size) : rE sy s (i + j) = i + rE sy b j := by
  have k := rE_end sy hj
  symm
  apply rE_of
  refine ⟨by have := k.lo; omega, by have := k.hi; have := h.end'.2; omega, fun m h1 h2 => ?_, fun _ => ?_⟩
  · have := k.all (m - i) (by omega) (by omega)
    rw [← (h.at' (j := m - i) (by have := k.hi; omega)).1, show i + (m - i) = m by omega] at this
    exact this
  · rcases Nat.lt_or_eq_of_le k.hi with h1 | h1
    · rw [(h.at' h1).1]; exact k.stop h1
    · rw [h1, h.end'.1]; decide +kernel
theorem ext_sh {s b : ByteArray} {i j m : Nat} (h : Sh s b i) (_hj : j ≤ m) (hm : m ≤ b.size) : s.extract (i + j) (i + m) = b.extract j m := by
  rw [Lib.extract_eq, Lib.extract_eq]
  congr 2
  apply List.ext_getElem?
  intro k
  rw [List.getElem?_take, List.getElem?_take, List.getElem?_drop, List.getElem?_drop, show i + m - (i + j) = m - j by omega]
  by_cases hk : k < m - j
  · rw [if_pos hk, if_pos hk]
    have hl : j + k < b.data.toList.length := by rw [← Lib.size_eq]; omega
    have h2 : b.data.toList[j + k]? = some (b.data.toList[j + k]) := List.getElem?_eq_getElem hl
    rw [h2, Nat.add_assoc]
    exact h.has.left _ _ h2
  · rw [if_neg hk, if_neg hk]
theorem ru_skip {r : RR Tk} {e : Nat} (h : r.u = .skip e) : False := by cases r <;> cases h
theorem rv_skip {r : RR Unit} {e : Nat} (h : r.v = .skip e) : r = .ok () e := by
  cases r with
  | ok a f => injection h with h; rw [h]
  | bad f => cases h
theorem unit_sh {s b : ByteArray} {i j e : Nat} (h : Sh s b i) (hj : j < b.size) (hu : unit b j = .skip e) : unit s (i + j) = .skip (i + e) := by
  obtain ⟨e0, l0⟩ := h.at' hj
  have e1 := h.next (j := j + 1) (by omega)
  have c1 : (byteAt s (i + j) = 123 ∧ byteAt s (i + j + 1) = 45) ↔ (byteAt b j = 123 ∧ byteAt b (j + 1) = 45) := by rw [e0, Nat.add_assoc]; rcases e1 with e1 | ⟨e1, e2⟩ <;> omega
  have hend := h.end'.2
  unfold unit at hu ⊢
  by_cases h1 : byteAt b j = 123 ∧ byteAt b (j + 1) = 45
  · rw [if_pos h1] at hu
    rw [if_pos (c1.2 h1)]
    have hc := rv_skip hu
    unfold comR at hc
    have := comF_sh (i0 := i + j) h _ hc (k' := s.size - (i + j)) (by omega)
    unfold comR
    rw [this]; rfl
  rw [if_neg h1] at hu
  rw [if_neg (fun x => h1 (c1.1 x)), rE_sh h (Nat.le_of_lt hj)]
  have k := rE_end sy (Nat.le_of_lt hj)
  rw [ext_sh h k.lo k.hi]
  by_cases h2 : om (b.extract j (rE sy b j)).data.toList = true
  · rw [if_pos h2] at hu ⊢
    have hc := rv_skip hu
    unfold linR at hc
    have := linF_sh h _ (by omega) hc (k' := s.size - (i + j)) (by omega)
    unfold linR
    rw [this]; rfl
  rw [if_neg h2] at hu
  exfalso
  split at hu
  · exact ru_skip hu
  split at hu
  · exact ru_skip hu
  split at hu
  · exact ru_skip hu
  split at hu
  · exact ru_skip hu
  split at hu
  · exact ru_skip hu
  split at hu <;> cases hu
theorem blank_pass {s b : ByteArray} {i : Nat} {l : List Tok} {r : LL} (h : Sh s b i) (k : Nat) : ∀ {j : Nat}, j ≤ b.size → b.size ≤ j + k → lexF b k j [] = .ok [] → Lx s (i + b.size) l r → Lx s (i + j) l r := by
  induction k with
  | zero => intro j h1 h2 _ hx; rw [show j = b.size by omega]; exact hx
  | succ k ih =>
    intro j h1 h2 hc hx
    by_cases hj : j < b.size
    · obtain ⟨e0, l0⟩ := h.at' hj
      unfold lexF at hc
      rw [if_pos hj] at hc
      by_cases hb : byteAt b j = 32 ∨ byteAt b j = 9 ∨ byteAt b j = 10
      · rw [if_pos hb] at hc
        exact Lx.blank l0 (by rw [e0]; exact hb) (by rw [Nat.add_assoc]; exact ih (by omega) (by omega) hc hx)
      · rw [if_neg hb] at hc
        cases hu : unit b j with
        | bad f => rw [hu] at hc; cases hc
        | tok t e =>
          rw [hu] at hc
          simp only [List.length_nil] at hc
          rw [if_neg (by decide)] at hc
          have := lexF_pre k hc
          rw [List.nil_append] at this
          have := this.length_le
          simp at this
        | skip e =>
          rw [hu] at hc
          obtain ⟨g1, g2⟩ := (unit_end hj).1 e hu
          refine Lx.skip l0 (by unfold NoBl; rw [e0]; exact hb) (unit_sh h hj hu) ?_
          exact ih g2 (by omega) hc hx
    · rw [show j = b.size by omega]; exact hx
/-- A text without tokens is passed over. -/
theorem blank_lex {s b : ByteArray} {i : Nat} {l : List Tok} {r : LL} (hb : lexP b = .ok []) (hz : b.size ≤ 65536) (h : Has s i (b.data.toList ++ [10])) (hx : Lx s (i + b.size + 1) l r) : Lx s i l r := by
  unfold lexP at hb
  rw [if_neg (by omega)] at hb
  have hs : Sh s b i := ⟨h⟩
  have := blank_pass (l := l) (r := r) hs b.size (j := 0) (by omega) (by omega) hb (Lx.blank hs.end'.2 (.inr (.inr hs.end'.1)) hx)
  exact this
/-- The tokens' texts, each with a line feed, the blank and a line feed behind it. -/
def blkL (b : List UInt8) (ts : List Tok) : List UInt8 := ts.flatMap (fun t => (txB t).data.toList ++ ([10] ++ (b ++ [10])))
theorem blk_lex {src b : ByteArray} (hb : lexP b = .ok []) (hz : b.size ≤ 65536) (ts : List Tok) : ∀ {i : Nat} {l : List Tok}, Has src i (blkL b.data.toList ts) → src.size = i + (blkL b.data.toList ts).length → ts.all prT = true → (∀ t ∈ ts, t.n ≤ 9223372036854775807 ∧ (txB t).size ≠ 0) → l.length + ts.length ≤ 16384 →
    ∃ m, Lx src i l (.ok (l ++ m)) ∧ sameL m ts = true := by
  induction ts with
  | nil =>
    intro i l _ hs _ _ _
    refine ⟨[], ?_, rfl⟩
    rw [List.append_nil]
    exact Lx.done (by rw [hs]; simp [blkL])
  | cons t ts ih =>
    intro i l hh hs hp hn hl
    rw [List.all_cons, Bool.and_eq_true] at hp
    rw [List.length_cons] at hl
    have e : blkL b.data.toList (t :: ts) = (txB t).data.toList ++ ([10] ++ ((b.data.toList ++ [10]) ++ blkL b.data.toList ts)) := by
      unfold blkL; rw [List.flatMap_cons]; simp
    rw [e] at hh hs
    have htx := hh.left
    have h1 := hh.right
    rw [← Lib.size_eq] at h1
    have hb10 : byteAt src (i + (txB t).size) = 10 := h1.left.head
    have hl10 : i + (txB t).size < src.size := h1.left.lt
    obtain ⟨hu, hnb⟩ := unit_tok hp.1 (hn t (List.mem_cons_self ..)).1 htx (.inr (.inl hb10))
    have h2 : Has src (i + (txB t).size + 1) ((b.data.toList ++ [10]) ++ blkL b.data.toList ts) := h1.right
    have h3 := h2.right
    have ez : i + (txB t).size + 1 + (b.data.toList ++ [10]).length = i + (txB t).size + 1 + b.size + 1 := by rw [List.length_append, ← Lib.size_eq]; rfl
    rw [ez] at h3
    obtain ⟨m, k1, k2⟩ := ih (i := i + (txB t).size + 1 + b.size + 1) (l := l ++ [Tk.at' ⟨t.op, t.qual, t.text, t.n⟩ (pos src i)]) h3 (by
      rw [hs]
      simp only [List.length_append, ← Lib.size_eq, List.length_cons, List.length_nil]
      omega) hp.2 (fun u hu => hn u (List.mem_cons_of_mem _ hu)) (by rw [List.length_append, List.length_singleton]; omega)
    have h0 := (hn t (List.mem_cons_self ..)).2
    refine ⟨Tk.at' ⟨t.op, t.qual, t.text, t.n⟩ (pos src i) :: m, ?_, sameL_cons (sameT_at t (pos src i)) k2⟩
    refine Lx.tok (by omega) hnb hu (by omega) (Lx.blank hl10 (.inr (.inr hb10)) (blank_lex hb hz h2.left ?_))
    rw [List.append_assoc, List.singleton_append] at k1
    exact k1
end Go.Proofs.YtelichlplblboaaGreatDoor
