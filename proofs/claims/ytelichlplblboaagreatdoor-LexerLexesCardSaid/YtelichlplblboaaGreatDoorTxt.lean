/-
  PLAIN. The text of a printable token, before a blank, a line feed or the end, is a unit: that token.
  PLAIN. The text of a printable token, before a blank, a line feed or the end, is a unit: names, and all of them.
  PLAIN. Lexing of what was rendered, and of what was quoted.
-/
import Derived.Test.YtelichlplblboaaGreatDoorLsp
import Derived.Test.YtelichlplblboaaGreatDoorWn
import Derived.Test.YtelichlplblboaaGreatDoorNmb
namespace Go.Proofs.YtelichlplblboaaGreatDoor
open Go.RowKit
/-- These bytes stand in the source from byte i on. -/
def Has (s : ByteArray) (i : Nat) (l : List UInt8) : Prop := ∀ k c, l[k]? = some c → s.data.toList[i + k]? = some c
theorem byte_get {s : ByteArray} {i : Nat} {c : UInt8} (h : s.data.toList[i]? = some c) : i < s.size ∧ byteAt s i = (c.toNat : Int) := by
  obtain ⟨hl, he⟩ := List.getElem?_eq_some_iff.1 h
  have hl' : i < s.size := by rw [Lib.size_eq]; exact hl
  refine ⟨hl', ?_⟩
  rw [byteAt_lt hl', ← he]; rfl
theorem Has.head {s : ByteArray} {i : Nat} {c : UInt8} {l : List UInt8} (h : Has s i (c :: l)) : byteAt s i = (c.toNat : Int) := (byte_get (h 0 c rfl)).2
theorem Has.lt {s : ByteArray} {i : Nat} {c : UInt8} {l : List UInt8} (h : Has s i (c :: l)) : i < s.size := (byte_get (h 0 c rfl)).1
theorem Has.tail {s : ByteArray} {i : Nat} {c : UInt8} {l : List UInt8} (h : Has s i (c :: l)) : Has s (i + 1) l := fun k d hk => by
  have := h (k + 1) d (by simpa using hk)
  rwa [show i + (k + 1) = i + 1 + k by omega] at this
theorem Has.left {s : ByteArray} {i : Nat} {a b : List UInt8} (h : Has s i (a ++ b)) : Has s i a := fun k c hk => h k c (by rw [List.getElem?_append_left (List.getElem?_eq_some_iff.1 hk).1]; exact hk)
theorem Has.right {s : ByteArray} {i : Nat} {a b : List UInt8} (h : Has s i (a ++ b)) : Has s (i + a.length) b := fun k c hk => by
  have := h (a.length + k) c (by rw [List.getElem?_append_right (by omega), Nat.add_sub_cancel_left]; exact hk)
  rwa [← Nat.add_assoc] at this
theorem Has.le {s : ByteArray} {l : List UInt8} : ∀ {i : Nat}, l ≠ [] → Has s i l → i + l.length ≤ s.size := by
  induction l with
  | nil => intro i h; exact absurd rfl h
  | cons c l ih =>
    intro i _ h
    have h1 := h.lt
    by_cases hl : l = []
    · subst hl; simp; omega
    · have := ih hl h.tail; rw [List.length_cons]; omega
theorem Has.all (s : ByteArray) : Has s 0 s.data.toList := fun k c hk => by rw [Nat.zero_add]; exact hk
theorem has_mk (l : List UInt8) : Has ⟨l.toArray⟩ 0 l := fun k c hk => by rw [Nat.zero_add]; exact hk
theorem Has.ext {s : ByteArray} {i : Nat} {l : List UInt8} (h : Has s i l) : s.extract i (i + l.length) = ⟨l.toArray⟩ := by
  rw [Lib.extract_eq, Nat.add_sub_cancel_left]
  congr 2
  apply List.ext_getElem?
  intro k
  rw [List.getElem?_take, List.getElem?_drop]
  by_cases hk : k < l.length
  · rw [if_pos hk, List.getElem?_eq_getElem hk]; exact h k _ (List.getElem?_eq_getElem hk)
  · rw [if_neg hk, List.getElem?_eq_none (by omega)]
theorem mk_self (t : ByteArray) : (⟨t.data.toList.toArray⟩ : ByteArray) = t := by cases t; simp
theorem Has.ext' {s t : ByteArray} {i : Nat} (h : Has s i t.data.toList) : s.extract i (i + t.size) = t := by
  have := h.ext
  rw [mk_self] at this
  rw [Lib.size_eq]; exact this
theorem nil_of {t : ByteArray} (h : t.data.toList = []) : t = nil8 := by
  rw [← mk_self t, h]; rfl
/-- A token ends here: a blank, a line feed, or the end. -/
def Stp (s : ByteArray) (j : Nat) : Prop := byteAt s j = 32 ∨ byteAt s j = 10 ∨ s.size ≤ j
theorem Stp.cases {s : ByteArray} {j : Nat} (h : Stp s j) : byteAt s j = 32 ∨ byteAt s j = 10 ∨ byteAt s j = 0 := by
  rcases h with h | h | h
  · exact .inl h
  · exact .inr (.inl h)
  · exact .inr (.inr (byteAt_ge h))
theorem Stp.no {s : ByteArray} {j : Nat} (h : Stp s j) {p : Int → Bool} (h1 : p 32 = false) (h2 : p 10 = false) (h3 : p 0 = false) : p (byteAt s j) = false := by
  rcases h.cases with e | e | e <;> rw [e] <;> assumption
theorem Stp.wd {s : ByteArray} {j : Nat} (h : Stp s j) : wd (byteAt s j) = false := h.no (by decide) (by decide) (by decide)
theorem Stp.sy {s : ByteArray} {j : Nat} (h : Stp s j) : sy (byteAt s j) = false := h.no (by decide +kernel) (by decide +kernel) (by decide +kernel)
theorem Stp.dg {s : ByteArray} {j : Nat} (h : Stp s j) : dg (byteAt s j) = false := h.no (by decide) (by decide) (by decide)
/-- A byte's facts, one by one: over all 256. -/
theorem byte_all {P : Int → Prop} [DecidablePred P] (h : ∀ c : _root_.Fin 256, P (c.val : Int)) (c : UInt8) : P (c.toNat : Int) := h ⟨c.toNat, c.toNat_lt⟩
theorem esc1_pos (q c : UInt8) : 1 ≤ (esc1 q c).length := by
  unfold esc1
  repeat' split
  all_goals simp
theorem hexV_hx (d : Nat) (h : d < 16) : hexV ((hxD d).toNat : Int) = some (d : Int) := by
  have : ∀ d : _root_.Fin 16, hexV ((hxD d.val).toNat : Int) = some (d.val : Int) := by decide
  exact this ⟨d, h⟩
theorem lit_has {s : ByteArray} {q c : UInt8} {i0 i : Nat} (hq : q = 34 ∨ q = 39) (h : Has s i (esc1 q c)) : litR s (q.toNat : Int) i0 i = .ok (c.toNat : Int) (i + (esc1 q c).length) := by
  have hcn := c.toNat_lt
  unfold esc1 at h ⊢
  by_cases h10 : c = 10
  · rw [if_pos h10] at h ⊢
    have b0 := h.head
    have b1 := h.tail.head
    subst h10
    have e0 : byteAt s i = 92 := b0
    have e1 : byteAt s (i + 1) = 110 := b1
    unfold litR; rw [if_pos e0]; unfold escR; rw [if_pos e1]; rfl
  rw [if_neg h10] at h ⊢
  by_cases h9 : c = 9
  · rw [if_pos h9] at h ⊢
    have b0 := h.head
    have b1 := h.tail.head
    subst h9
    have e0 : byteAt s i = 92 := b0
    have e1 : byteAt s (i + 1) = 116 := b1
    unfold litR; rw [if_pos e0]; unfold escR; rw [if_neg (by omega), if_pos e1]; rfl
  rw [if_neg h9] at h ⊢
  by_cases hb : c = 92 ∨ c = q
  · rw [if_pos hb] at h ⊢
    have e0 : byteAt s i = 92 := h.head
    have e1 := h.tail.head
    have hv : c.toNat = 92 ∨ c.toNat = 34 ∨ c.toNat = 39 := by
      rcases hb with rfl | rfl
      · exact .inl rfl
      · rcases hq with rfl | rfl
        · exact .inr (.inl rfl)
        · exact .inr (.inr rfl)
    unfold litR; rw [if_pos e0]; unfold escR
    rw [if_neg (by omega), if_neg (by omega), if_pos (by omega), e1]; rfl
  rw [if_neg hb] at h ⊢
  cases hp : prn (c.toNat : Int)
  · rw [hp] at h
    simp only [Bool.false_eq_true, if_false] at h ⊢
    have e0 : byteAt s i = 92 := h.head
    have e1 : byteAt s (i + 1) = 120 := h.tail.head
    have e2 := h.tail.tail.head
    have e3 := h.tail.tail.tail.head
    have v2 := hexV_hx (c.toNat / 16) (by omega)
    have v3 := hexV_hx (c.toNat % 16) (by omega)
    unfold litR; rw [if_pos e0]; unfold escR
    rw [if_neg (by omega), if_neg (by omega), if_neg (by omega), if_pos e1]
    unfold hexR
    rw [e2, v2]
    simp only
    rw [e3, v3]
    simp only
    rw [show (16 * ((c.toNat / 16 : Nat) : Int) + ((c.toNat % 16 : Nat) : Int)) = (c.toNat : Int) by omega]
    rfl
  · rw [hp] at h
    simp only [if_true] at h ⊢
    have e0 := h.head
    unfold litR
    rw [if_neg, if_neg, e0]
    · rfl
    · rintro (he | he)
      · apply hb; right
        rw [e0] at he
        exact UInt8.toNat_inj.1 (by omega)
      · rw [e0, hp] at he; cases he
    · intro he
      apply hb; left
      rw [e0] at he
      exact UInt8.toNat_inj.1 (by show c.toNat = 92; omega)
theorem esc_head {s : ByteArray} {c : UInt8} {i : Nat} {l : List UInt8} (h : Has s i (esc1 34 c ++ l)) : byteAt s i ≠ 34 := by
  have h := h.left
  unfold esc1 at h
  by_cases h10 : c = 10
  · rw [if_pos h10] at h; have : byteAt s i = 92 := h.head; omega
  rw [if_neg h10] at h
  by_cases h9 : c = 9
  · rw [if_pos h9] at h; have : byteAt s i = 92 := h.head; omega
  rw [if_neg h9] at h
  by_cases hb : c = 92 ∨ c = 34
  · rw [if_pos hb] at h; have : byteAt s i = 92 := h.head; omega
  rw [if_neg hb] at h
  cases hp : prn (c.toNat : Int)
  · rw [hp] at h; have : byteAt s i = 92 := h.head; omega
  · rw [hp] at h
    have e := h.head
    intro he
    apply hb; right
    rw [e] at he
    exact UInt8.toNat_inj.1 (by show c.toNat = 34; omega)
theorem byte_back (c : UInt8) : ((c.toNat : Int)).toNat.toUInt8 = c := by simp
theorem txtF_has {s : ByteArray} {i0 : Nat} (b : List UInt8) : ∀ {n i : Nat} {a : List UInt8}, a.length + b.length ≤ 200 → b.length < n → Has s i (b.flatMap (esc1 34) ++ [34]) →
    txtF s i0 n i a = .ok ⟨7, nil8, ⟨(a ++ b).toArray⟩, 0⟩ (i + (b.flatMap (esc1 34)).length + 1) := by
  induction b with
  | nil =>
    intro n i a _ hn h
    obtain ⟨n, rfl⟩ : ∃ m, n = m + 1 := ⟨n - 1, by simp at hn; omega⟩
    have e : byteAt s i = 34 := h.head
    unfold txtF
    rw [if_pos e]
    simp
  | cons c b ih =>
    intro n i a hl hn h
    rw [List.length_cons] at hl hn
    obtain ⟨n, rfl⟩ : ∃ m, n = m + 1 := ⟨n - 1, by omega⟩
    rw [List.flatMap_cons, List.append_assoc] at h
    unfold txtF
    rw [if_neg (esc_head h)]
    have hlit : litR s 34 i0 i = .ok (c.toNat : Int) (i + (esc1 34 c).length) := lit_has (q := 34) (.inl rfl) h.left
    rw [hlit]
    simp only
    rw [if_neg (by omega), byte_back, ih (by simp; omega) (by omega) h.right, List.append_assoc, List.flatMap_cons, List.length_append]
    simp only [List.singleton_append]
    congr 1; omega
theorem flat_esc_len (q : UInt8) (l : List UInt8) : l.length ≤ (l.flatMap (esc1 q)).length := by
  induction l with
  | nil => simp
  | cons c l ih => rw [List.flatMap_cons, List.length_append, List.length_cons]; have := esc1_pos q c; omega
theorem txtR_has {s : ByteArray} {i : Nat} {l : List UInt8} (hl : l.length ≤ 200) (h : Has s i (qtL 34 l)) : txtR s i = .ok ⟨7, nil8, ⟨l.toArray⟩, 0⟩ (i + (qtL 34 l).length) := by
  have h1 := h.le (by simp [qtL])
  have h2 := flat_esc_len 34 l
  unfold qtL qtB at h h1 ⊢
  rw [List.cons_append] at h
  unfold txtR
  simp only [List.length_append, List.length_cons, List.length_nil] at h1 ⊢
  rw [txtF_has l (by simp; omega) (by omega) h.tail]
  simp only [List.nil_append]
  congr 1; omega
theorem chrR_has {s : ByteArray} {i : Nat} {c : UInt8} (h : Has s i (qtL 39 [c])) : chrR s i = .ok ⟨6, nil8, nil8, (c.toNat : Int)⟩ (i + (qtL 39 [c]).length) := by
  unfold qtL qtB at h ⊢
  rw [List.cons_append] at h
  simp only [List.flatMap_cons, List.flatMap_nil, List.append_nil] at h ⊢
  have h1 := h.tail
  have hlit : litR s 39 i (i + 1) = .ok (c.toNat : Int) (i + 1 + (esc1 39 c).length) := lit_has (q := 39) (.inr rfl) h1.left
  have h2 : byteAt s (i + 1 + (esc1 39 c).length) = 39 := h1.right.head
  unfold chrR
  rw [hlit]
  simp only
  rw [if_pos h2]
  simp only [List.length_append, List.length_cons, List.length_nil]
  congr 1; omega
theorem intF_no {s : ByteArray} {i0 : Nat} (k : Nat) {i : Nat} {n : Int} (h : dg (byteAt s i) = false) : intF s i0 k i n = .ok ⟨5, nil8, nil8, n⟩ i := by
  cases k with
  | zero => rfl
  | succ k => unfold intF; rw [h]; rfl
def vlF (a : Nat) (l : List UInt8) : Nat := l.foldl (fun a c => a * 10 + (c.toNat - 48)) a
theorem vlF_le (l : List UInt8) : ∀ a, a ≤ vlF a l := by
  induction l with
  | nil => intro a; exact Nat.le_refl _
  | cons c l ih => intro a; exact Nat.le_trans (show a ≤ a * 10 + (c.toNat - 48) by omega) (ih _)
theorem intF_has {s : ByteArray} {i0 : Nat} (l : List UInt8) : ∀ {k i n : Nat}, Has s i l → l.all dgB = true → vlF n l ≤ 9223372036854775807 → dg (byteAt s (i + l.length)) = false → l.length ≤ k →
    intF s i0 k i (n : Int) = .ok ⟨5, nil8, nil8, ((vlF n l : Nat) : Int)⟩ (i + l.length) := by
  induction l with
  | nil => intro k i n _ _ _ h _; exact intF_no k h
  | cons c l ih =>
    intro k i n h ha hv hs hk
    rw [List.length_cons] at hk hs ⊢
    obtain ⟨k, rfl⟩ : ∃ m, k = m + 1 := ⟨k - 1, by omega⟩
    rw [List.all_cons, Bool.and_eq_true] at ha
    have hd : dg (c.toNat : Int) = true := ha.1
    have hb := dg_bd hd
    have hv' : vlF (n * 10 + (c.toNat - 48)) l ≤ 9223372036854775807 := hv
    have hle := vlF_le l (n * 10 + (c.toNat - 48))
    unfold intF
    rw [h.head, if_pos hd, if_neg (by omega)]
    have e : (10 * (n : Int) + ((c.toNat : Int) - 48)) = ((n * 10 + (c.toNat - 48) : Nat) : Int) := by omega
    rw [e, ih h.tail ha.2 hv' (by rw [show i + 1 + l.length = i + (l.length + 1) by omega]; exact hs) (by omega)]
    rw [show i + 1 + l.length = i + (l.length + 1) by omega]
    rfl
theorem intR_has {s : ByteArray} {i u : Nat} (hu : u ≤ 9223372036854775807) (h : Has s i (Lib.decDigits u)) (hs : Stp s (i + (Lib.decDigits u).length)) : intR s i = .ok ⟨5, nil8, nil8, (u : Int)⟩ (i + (Lib.decDigits u).length) := by
  obtain ⟨hc, hv, _⟩ := dec_canon u u (Nat.le_refl _)
  have hne : Lib.decDigits u ≠ [] := by
    intro e; rw [e] at hc; simp [canon] at hc
  have hle := h.le hne
  have ha : (Lib.decDigits u).all dgB = true := by simp only [canon, Bool.and_eq_true] at hc; exact hc.1.2
  have hv' : vlF 0 (Lib.decDigits u) = u := hv
  have := intF_has (s := s) (i0 := i) (Lib.decDigits u) (k := s.size - i) (n := 0) h ha (by omega) hs.dg (by omega)
  rw [hv'] at this
  exact this
/-- Where a run of such bytes ends. -/
theorem rE_has {p : Int → Bool} {s : ByteArray} {i : Nat} {l : List UInt8} (h : Has s i l) (hi : i ≤ s.size) (ha : l.all (fun c => p (c.toNat : Int)) = true) (hs : p (byteAt s (i + l.length)) = false) : rE p s i = i + l.length := by
  symm
  apply rE_of
  refine ⟨by omega, ?_, fun k h1 h2 => ?_, fun _ => hs⟩
  · by_cases hn : l = []
    · subst hn; simpa using hi
    · exact h.le hn
  · have hk : k - i < l.length := by omega
    have := h (k - i) _ (List.getElem?_eq_getElem hk)
    rw [show i + (k - i) = k by omega] at this
    rw [(byte_get this).2]
    exact List.all_eq_true.1 ha _ (List.getElem_mem hk)
theorem om_no {s : ByteArray} {i : Nat} (hi : i ≤ s.size) (h : sy (byteAt s i) = false) : om (s.extract i (rE sy s i)).data.toList = false := by
  have e : rE sy s i = i := by
    have k := rE_end sy hi
    rcases Nat.lt_or_eq_of_le k.lo with h1 | h1
    · have := k.all i (Nat.le_refl _) h1; rw [h] at this; cases this
    · exact h1.symm
  rw [e, Lib.extract_eq, Nat.sub_self]
  simp [om]
end Go.Proofs.YtelichlplblboaaGreatDoor
namespace Go.Proofs.YtelichlplblboaaGreatDoor
open Go.RowKit
theorem head_of {l : List UInt8} (h : 1 ≤ l.length) : ∃ c r, l = c :: r := by
  cases l with
  | nil => simp at h
  | cons c r => exact ⟨c, r, rfl⟩
/-- A word's or an operator's text. -/
def nameB (l : List UInt8) : Bool := wordB l || symbolB l
theorem opo_name {t : ByteArray} (h : opo (cls t) ≠ 0) : nameB t.data.toList = true := by
  unfold nameB
  cases h1 : wordB t.data.toList
  · cases h2 : symbolB t.data.toList
    · exfalso
      apply h
      unfold cls
      rw [h1, h2]
      simp only [Bool.false_eq_true, if_false]
      split <;> decide
    · rfl
  · rfl
theorem word_parts {l : List UInt8} (h : wordB l = true) : 1 ≤ l.length ∧ l.length ≤ 64 ∧ l.all wdB = true ∧ ∃ c r, l = c :: r ∧ sttB c = true := by
  obtain ⟨h1, h2⟩ := wordB_pos h
  obtain ⟨c, r, rfl⟩ := head_of h1
  unfold wordB at h
  simp only [Bool.and_eq_true] at h
  refine ⟨h1, h2, h.2, c, r, rfl, ?_⟩
  have := h.1.2
  simpa using this
theorem sym_parts {l : List UInt8} (h : symbolB l = true) : 1 ≤ l.length ∧ l.length ≤ 64 ∧ l.all syB = true ∧ om l = false ∧ ∃ c r, l = c :: r ∧ syB c = true := by
  obtain ⟨h1, h2⟩ := symbolB_pos h
  obtain ⟨c, r, rfl⟩ := head_of h1
  unfold symbolB at h
  simp only [Bool.and_eq_true] at h
  have ha := h.1.2
  refine ⟨h1, h2, ha, ?_, c, r, rfl, ?_⟩
  · have hm := h.2
    unfold om
    cases hal : (c :: r).all mn
    · simp
    · rw [hal] at hm
      simp at hm
      simp [hm]
  · rw [List.all_cons, Bool.and_eq_true] at ha; exact ha.1
theorem nE_has {s : ByteArray} {i : Nat} {l : List UInt8} (hl : nameB l = true) (h : Has s i l) (hs : Stp s (i + l.length)) : nE s i = i + l.length ∧ 1 ≤ l.length ∧ l.length ≤ 64 := by
  unfold nameB at hl
  cases h1 : wordB l
  · rw [h1] at hl
    obtain ⟨a1, a2, a3, _, c, r, rfl, a5⟩ := sym_parts (by simpa using hl)
    refine ⟨?_, a1, a2⟩
    have hst : stt (byteAt s i) = false := by rw [h.head]; exact sy_not_stt c a5
    unfold nE
    rw [hst]
    simp only [Bool.false_eq_true, if_false]
    exact rE_has h (Nat.le_of_lt h.lt) a3 hs.sy
  · obtain ⟨a1, a2, a3, c, r, rfl, a5⟩ := word_parts h1
    refine ⟨?_, a1, a2⟩
    have hst : stt (byteAt s i) = true := by rw [h.head]; exact a5
    unfold nE
    rw [hst]
    simp only [if_true]
    exact rE_has h (Nat.le_of_lt h.lt) a3 hs.wd
theorem nmR_has {s t : ByteArray} {i0 i : Nat} {q : ByteArray} (hl : nameB t.data.toList = true) (h : Has s i t.data.toList) (hs : Stp s (i + t.size)) : nmR s i0 q i = .ok ⟨opo (cls t), q, t, 0⟩ (i + t.size) := by
  rw [Lib.size_eq] at hs
  obtain ⟨h1, h2, h3⟩ := nE_has hl h hs
  rw [← Lib.size_eq] at h1 h2 h3
  unfold nmR
  rw [h1, if_neg (by omega), h.ext']
theorem sy_facts (c : UInt8) (h : syB c = true) : (c.toNat : Int) ≠ 123 ∧ (c.toNat : Int) ≠ 32 ∧ (c.toNat : Int) ≠ 9 ∧ (c.toNat : Int) ≠ 10 := by
  have : ∀ c : _root_.Fin 256, sy (c.val : Int) = true → (c.val : Int) ≠ 123 ∧ (c.val : Int) ≠ 32 ∧ (c.val : Int) ≠ 9 ∧ (c.val : Int) ≠ 10 := by decide +kernel
  exact this ⟨c.toNat, c.toNat_lt⟩ h
theorem stt_not_sy (c : UInt8) (h : sttB c = true) : sy (c.toNat : Int) = false := by
  cases hs : sy (c.toNat : Int)
  · rfl
  · have := sy_not_stt c hs; rw [h] at this; cases this
/-- No blank begins here. -/
def NoBl (s : ByteArray) (i : Nat) : Prop := ¬ (byteAt s i = 32 ∨ byteAt s i = 9 ∨ byteAt s i = 10)
theorem unit_stt {s : ByteArray} {i : Nat} (h : stt (byteAt s i) = true) : unit s i = (idR s i).u ∧ NoBl s i := by
  have hb := stt_bd h
  have hi := stt_pos h
  obtain ⟨c, hc⟩ : ∃ c, s.data.toList[i]? = some c := ⟨_, List.getElem?_eq_getElem (by rw [← Lib.size_eq]; exact hi)⟩
  have hbc := (byte_get hc).2
  have hsy : sy (byteAt s i) = false := by rw [hbc] at h ⊢; exact stt_not_sy c h
  refine ⟨?_, fun h => by omega⟩
  unfold unit
  rw [if_neg (by omega), om_no (Nat.le_of_lt hi) hsy]
  simp only [Bool.false_eq_true, if_false]
  rw [if_pos h]
theorem unit_name {s t : ByteArray} {i : Nat} (hl : nameB t.data.toList = true) (h : Has s i t.data.toList) (hs : Stp s (i + t.size)) : unit s i = .tok ⟨opo (cls t), nil8, t, 0⟩ (i + t.size) ∧ NoBl s i := by
  have hnm := nmR_has (i0 := i) (q := nil8) hl h hs
  cases h1 : wordB t.data.toList
  · have hl2 : symbolB t.data.toList = true := by unfold nameB at hl; rw [h1] at hl; simpa using hl
    obtain ⟨a1, a2, a3, a4, c, r, e, a5⟩ := sym_parts hl2
    have hh := h
    rw [e] at hh
    have hb := hh.head
    have hi := hh.lt
    obtain ⟨f1, f2, f3, f4⟩ := sy_facts c a5
    have hsy : sy (byteAt s i) = true := by rw [hb]; exact a5
    have hst : stt (byteAt s i) = false := by rw [hb]; exact sy_not_stt c a5
    refine ⟨?_, fun h => by omega⟩
    have hr : rE sy s i = i + t.size := by rw [Lib.size_eq]; exact rE_has h (Nat.le_of_lt hi) a3 (by rw [← Lib.size_eq]; exact hs.sy)
    unfold unit
    rw [if_neg (by omega), hr, h.ext', a4, hst, hsy, hnm]
    rfl
  · obtain ⟨a1, a2, a3, c, r, e, a5⟩ := word_parts h1
    have hh := h
    rw [e] at hh
    have hst : stt (byteAt s i) = true := by rw [hh.head]; exact a5
    obtain ⟨hu, hnb⟩ := unit_stt hst
    refine ⟨?_, hnb⟩
    rw [hu]
    have hr : rE wd s i = i + t.size := by rw [Lib.size_eq]; exact rE_has h (Nat.le_of_lt hh.lt) a3 (by rw [← Lib.size_eq]; exact hs.wd)
    have hne : byteAt s (i + t.size) ≠ 46 := by rcases hs.cases with e | e | e <;> omega
    unfold idR
    rw [hr, decide_eq_false hne]
    simp only [Bool.and_false, Bool.false_and, Bool.false_eq_true, if_false]
    rw [hnm]; rfl
theorem cls_con {q : ByteArray} (h : cls q = 2) : wordB q.data.toList = true ∧ up (hd q.data.toList) = true := by
  unfold cls at h
  cases h1 : wordB q.data.toList
  · rw [h1] at h
    simp only [Bool.false_eq_true, if_false] at h
    exfalso
    split at h
    · unfold clsS at h; split at h
      · omega
      · split at h <;> omega
    · split at h <;> omega
  · rw [h1] at h
    simp only [if_true] at h
    refine ⟨rfl, ?_⟩
    unfold clsW at h
    split at h
    · omega
    · split at h
      · assumption
      · omega
theorem qok_has {t : ByteArray} (hl : nameB t.data.toList = true) (h5 : cls t ≠ 5) (h6 : cls t ≠ 6) : qok t = true := by
  have hom : om t.data.toList = false := by
    cases h1 : wordB t.data.toList
    · have hl2 : symbolB t.data.toList = true := by unfold nameB at hl; rw [h1] at hl; simpa using hl
      exact (sym_parts hl2).2.2.2.1
    · obtain ⟨a1, a2, a3, c, r, e, a5⟩ := word_parts h1
      rw [e]
      unfold om
      have : mn c = false := by
        unfold mn
        cases hc : (c == 45)
        · rfl
        · have : c = 45 := by simpa using hc
          rw [this] at a5; revert a5; decide
      rw [List.all_cons, this]; simp
  have hne : t.data.toList.isEmpty = false := by
    cases hd : t.data.toList with
    | nil => rw [hd] at hl; revert hl; decide
    | cons c r => rfl
  unfold qok
  rw [hom, hne]
  simp [h5, h6]
theorem unit_qual {s q t : ByteArray} {i : Nat} (hq : cls q = 2) (hl : nameB t.data.toList = true) (h5 : cls t ≠ 5) (h6 : cls t ≠ 6) (h : Has s i (q.data.toList ++ (46 :: t.data.toList))) (hs : Stp s (i + q.size + 1 + t.size)) :
    unit s i = .tok ⟨opo (cls t), q, t, 0⟩ (i + q.size + 1 + t.size) ∧ NoBl s i := by
  obtain ⟨w1, w2⟩ := cls_con hq
  obtain ⟨a1, a2, a3, c, r, e, a5⟩ := word_parts w1
  have hQ := h.left
  have hh := hQ
  rw [e] at hh
  have hst : stt (byteAt s i) = true := by rw [hh.head]; exact a5
  have hup : up (byteAt s i) = true := by rw [hh.head]; rw [e] at w2; exact w2
  have hP : byteAt s (i + q.size) = 46 := by rw [Lib.size_eq]; exact h.right.head
  have hPl : i + q.size < s.size := by rw [Lib.size_eq]; exact h.right.lt
  have hT : Has s (i + q.size + 1) t.data.toList := by rw [Lib.size_eq]; exact h.right.tail
  have hr : rE wd s i = i + q.size := by rw [Lib.size_eq]; exact rE_has hQ (Nat.le_of_lt hh.lt) a3 (by rw [← Lib.size_eq, hP]; decide)
  obtain ⟨n1, n2, n3⟩ := nE_has hl hT (by rw [← Lib.size_eq]; exact hs)
  rw [← Lib.size_eq] at n1 n2 n3 a1 a2
  obtain ⟨hu, hnb⟩ := unit_stt hst
  refine ⟨?_, hnb⟩
  rw [hu]
  unfold idR
  rw [hr, n1, hT.ext', hup, hP, decide_eq_true hPl, qok_has hl h5 h6, hQ.ext']
  simp only [decide_true, Bool.and_self, if_true]
  rw [if_neg (by omega), nmR_has hl hT hs]
  rfl
theorem spc_facts (c : UInt8) (h : Lib.contains spB [c] = true) : spc (c.toNat : Int) = true ∧ sy (c.toNat : Int) = false ∧ stt (c.toNat : Int) = false ∧ dg (c.toNat : Int) = false ∧ (c.toNat : Int) ≠ 39 ∧ (c.toNat : Int) ≠ 34 ∧ (c.toNat : Int) ≠ 32 ∧ (c.toNat : Int) ≠ 9 ∧ (c.toNat : Int) ≠ 10 := by
  have key : ∀ c : _root_.Fin 256, Lib.contains spB [c.val.toUInt8] = true → spc (c.val : Int) = true ∧ sy (c.val : Int) = false ∧ stt (c.val : Int) = false ∧ dg (c.val : Int) = false ∧ (c.val : Int) ≠ 39 ∧ (c.val : Int) ≠ 34 ∧ (c.val : Int) ≠ 32 ∧ (c.val : Int) ≠ 9 ∧ (c.val : Int) ≠ 10 := by decide +kernel
  have e : c.toNat.toUInt8 = c := by simp
  exact key ⟨c.toNat, c.toNat_lt⟩ (by show Lib.contains spB [c.toNat.toUInt8] = true; rw [e]; exact h)
theorem unit_lit {s : ByteArray} {i : Nat} {c : Int} (hi : i < s.size) (hb : byteAt s i = c) (h1 : c ≠ 123) (h2 : sy c = false) (h3 : stt c = false) :
    unit s i = if dg c then (intR s i).u else if c = 39 then (chrR s i).u else if c = 34 then (txtR s i).u else if spc c then .tok ⟨8, nil8, s.extract i (i + 1), 0⟩ (i + 1) else .bad (flt s 5 nil8 i) := by
  subst hb
  unfold unit
  rw [if_neg (by omega), om_no (Nat.le_of_lt hi) h2]
  simp only [Bool.false_eq_true, if_false]
  rw [h3, h2]
  simp only [Bool.false_eq_true, if_false]
theorem unit_int {s : ByteArray} {i u : Nat} (hu : u ≤ 9223372036854775807) (h : Has s i (Lib.decDigits u)) (hs : Stp s (i + (Lib.decDigits u).length)) : unit s i = .tok ⟨5, nil8, nil8, (u : Int)⟩ (i + (Lib.decDigits u).length) ∧ NoBl s i := by
  obtain ⟨hc, hv, _⟩ := dec_canon u u (Nat.le_refl _)
  have hk := intR_has hu h hs
  obtain ⟨c, r, e⟩ : ∃ c r, Lib.decDigits u = c :: r := by
    cases hd : Lib.decDigits u with
    | nil => rw [hd] at hc; simp [canon] at hc
    | cons c r => exact ⟨c, r, rfl⟩
  have hh := h
  rw [e] at hh
  have hdg : dg (c.toNat : Int) = true := by
    simp only [canon, Bool.and_eq_true] at hc
    have := hc.1.2
    rw [e, List.all_cons, Bool.and_eq_true] at this
    exact this.1
  have hb := dg_bd hdg
  have key : ∀ c : _root_.Fin 256, dg (c.val : Int) = true → sy (c.val : Int) = false ∧ stt (c.val : Int) = false := by decide +kernel
  obtain ⟨k1, k2⟩ := key ⟨c.toNat, c.toNat_lt⟩ hdg
  refine ⟨?_, fun hx => by rw [hh.head] at hx; omega⟩
  rw [unit_lit hh.lt hh.head (by omega) k1 k2, if_pos hdg, hk]
  rfl
theorem unit_str {s : ByteArray} {i : Nat} {t : ByteArray} (hl : t.size ≤ 200) (h : Has s i (qtL 34 t.data.toList)) : unit s i = .tok ⟨7, nil8, t, 0⟩ (i + (qtL 34 t.data.toList).length) ∧ NoBl s i := by
  have hk := txtR_has (by rw [← Lib.size_eq]; exact hl) h
  have hh : Has s i (34 :: (t.data.toList.flatMap (esc1 34) ++ [34])) := h
  have hb : byteAt s i = 34 := hh.head
  refine ⟨?_, fun hx => by omega⟩
  rw [unit_lit hh.lt hb (by decide) (by decide +kernel) (by decide), if_neg (by decide), if_neg (by decide), if_pos rfl, hk, mk_self]
  rfl
theorem unit_chr {s : ByteArray} {i : Nat} {c : UInt8} (h : Has s i (qtL 39 [c])) : unit s i = .tok ⟨6, nil8, nil8, (c.toNat : Int)⟩ (i + (qtL 39 [c]).length) ∧ NoBl s i := by
  have hk := chrR_has h
  have hh : Has s i (39 :: ([c].flatMap (esc1 39) ++ [39])) := h
  have hb : byteAt s i = 39 := hh.head
  refine ⟨?_, fun hx => by omega⟩
  rw [unit_lit hh.lt hb (by decide) (by decide +kernel) (by decide), if_neg (by decide), if_pos rfl, hk]
  rfl
theorem unit_spc {s t : ByteArray} {i : Nat} (h1 : t.size = 1) (h2 : Lib.contains spB t.data.toList = true) (h : Has s i t.data.toList) (hs : Stp s (i + t.size)) : unit s i = .tok ⟨8, nil8, t, 0⟩ (i + t.size) ∧ NoBl s i := by
  have hx := h.ext'
  rw [h1] at hs hx ⊢
  rw [Lib.size_eq] at h1
  obtain ⟨c, hc⟩ := List.length_eq_one_iff.1 h1
  rw [hc] at h h2
  obtain ⟨k1, k2, k3, k4, k5, k6, k7, k8, k9⟩ := spc_facts c h2
  have hb := h.head
  refine ⟨?_, fun hx => by omega⟩
  have hne : byteAt s (i + 1) ≠ 45 := by rcases hs.cases with e | e | e <;> omega
  unfold unit
  rw [if_neg (fun h => hne h.2), om_no (Nat.le_of_lt h.lt) (by rw [hb]; exact k2)]
  simp only [Bool.false_eq_true, if_false]
  rw [hb, k3, k2, k4, if_neg k5, if_neg k6, k1, hx]
  simp
/-- A printable token's text is a unit: that token. -/
theorem unit_tok {s : ByteArray} {i : Nat} {t : Tok} (hp : prT t = true) (hn : t.n ≤ 9223372036854775807) (h : Has s i (txB t).data.toList) (hs : Stp s (i + (txB t).size)) :
    unit s i = .tok ⟨t.op, t.qual, t.text, t.n⟩ (i + (txB t).size) ∧ NoBl s i := by
  obtain ⟨op, qual, text, n, auto, line, col⟩ := t
  simp only at hn
  unfold prT at hp
  simp only at hp
  by_cases h5 : op = 5
  · subst h5
    simp at hp
    obtain ⟨⟨e1, e2⟩, e3⟩ := hp
    obtain ⟨u, rfl⟩ := Int.eq_ofNat_of_zero_le e3
    have ht : txB ⟨5, qual, text, (u : Int), auto, line, col⟩ = ⟨(Lib.decDigits u).toArray⟩ := by unfold txB; simp [Lib.itoa_nonneg]
    rw [ht] at h hs ⊢
    have hz : (⟨(Lib.decDigits u).toArray⟩ : ByteArray).size = (Lib.decDigits u).length := by rw [Lib.size_eq]
    rw [hz] at hs ⊢
    have := unit_int (by omega) h hs
    obtain rfl : qual = nil8 := nil_of (by simpa using e1)
    obtain rfl : text = nil8 := nil_of (by simpa using e2)
    exact this
  rw [if_neg h5] at hp
  by_cases h6 : op = 6
  · subst h6
    simp at hp
    obtain ⟨⟨⟨e1, e2⟩, e3⟩, e4⟩ := hp
    obtain ⟨u, rfl⟩ := Int.eq_ofNat_of_zero_le e3
    have ht : txB ⟨6, qual, text, (u : Int), auto, line, col⟩ = ⟨(qtL 39 [u.toUInt8]).toArray⟩ := by unfold txB qcB; simp; omega
    rw [ht] at h hs ⊢
    have hz : (⟨(qtL 39 [u.toUInt8]).toArray⟩ : ByteArray).size = (qtL 39 [u.toUInt8]).length := by rw [Lib.size_eq]
    rw [hz] at hs ⊢
    have := unit_chr (c := u.toUInt8) h
    have eu : u.toUInt8.toNat = u := by simp [Nat.toUInt8]; omega
    rw [eu] at this
    obtain rfl : qual = nil8 := nil_of (by simpa using e1)
    obtain rfl : text = nil8 := nil_of (by simpa using e2)
    exact this
  rw [if_neg h6] at hp
  by_cases h7 : op = 7
  · subst h7
    simp at hp
    obtain ⟨⟨e1, rfl⟩, e3⟩ := hp
    have ht : txB ⟨7, qual, text, 0, auto, line, col⟩ = ⟨(qtL 34 text.data.toList).toArray⟩ := by unfold txB; simp
    rw [ht] at h hs ⊢
    have hz : (⟨(qtL 34 text.data.toList).toArray⟩ : ByteArray).size = (qtL 34 text.data.toList).length := by rw [Lib.size_eq]
    rw [hz] at hs ⊢
    have := unit_str e3 h
    obtain rfl : qual = nil8 := nil_of (by simpa using e1)
    exact this
  rw [if_neg h7] at hp
  have ht : ∀ q, q = qual → txB ⟨op, q, text, n, auto, line, col⟩ = if q.data.toList = [] then text else q ++ ⟨#[46]⟩ ++ text := by
    intro q _
    unfold txB
    simp only
    rw [if_neg h5, if_neg h6, if_neg h7]
  rw [ht _ rfl] at h hs ⊢
  by_cases h8 : op = 8
  · subst h8
    simp at hp
    obtain ⟨⟨⟨e1, rfl⟩, e3⟩, e4⟩ := hp
    rw [if_pos (by simpa using e1)] at h hs ⊢
    obtain rfl : qual = nil8 := nil_of (by simpa using e1)
    exact unit_spc e3 e4 h hs
  rw [if_neg h8] at hp
  by_cases h9 : op = 9 ∨ op = 10
  · rw [if_pos h9] at hp
    simp at hp
    obtain ⟨⟨e1, rfl⟩, e3⟩ := hp
    rw [if_pos (by simpa using e1)] at h hs ⊢
    obtain rfl : qual = nil8 := nil_of (by simpa using e1)
    rw [← e3]
    exact unit_name (opo_name (by rw [e3]; omega)) h hs
  rw [if_neg h9] at hp
  by_cases h1 : op = 1 ∨ op = 2 ∨ op = 3 ∨ op = 4
  · rw [if_pos h1] at hp
    simp at hp
    obtain ⟨⟨e1, rfl⟩, e3⟩ := hp
    have hnm := opo_name (t := text) (by rw [e3]; omega)
    by_cases hq : qual.data.toList = []
    · rw [if_pos hq] at h hs ⊢
      rw [nil_of hq, ← e3]
      exact unit_name hnm h hs
    · rw [if_neg hq] at h hs ⊢
      have hc : cls qual = 2 := by
        unfold isq at e1
        rw [Bool.or_eq_true] at e1
        rcases e1 with e1 | e1
        · exact absurd (by simpa using e1) hq
        · simpa using e1
      have hz : (qual ++ ⟨#[46]⟩ ++ text).size = qual.size + 1 + text.size := by simp only [ByteArray.size_append]; rfl
      have hd : (qual ++ ⟨#[46]⟩ ++ text).data.toList = qual.data.toList ++ (46 :: text.data.toList) := by rw [app_data, app_data]; simp
      rw [hz, ← Nat.add_assoc, ← Nat.add_assoc] at hs ⊢
      rw [hd] at h
      have h5' : cls text ≠ 5 := by intro e; rw [e] at e3; have : opo 5 = 9 := rfl; omega
      have h6' : cls text ≠ 6 := by intro e; rw [e] at e3; have : opo 6 = 10 := rfl; omega
      rw [← e3]
      exact unit_qual hc hnm h5' h6' h hs
  · rw [if_neg h1] at hp; cases hp
end Go.Proofs.YtelichlplblboaaGreatDoor
namespace Go.Proofs.YtelichlplblboaaGreatDoor
open Go.RowKit
/-- The source from byte i on, with these tokens before, comes to this. -/
def Lx (s : ByteArray) (i : Nat) (l : List Tok) (r : LL) : Prop := ∀ k, s.size ≤ i + k → lexF s k i l = r
theorem Lx.done {s : ByteArray} {i : Nat} {l : List Tok} (h : s.size ≤ i) : Lx s i l (.ok l) := by
  intro k _
  cases k with
  | zero => rfl
  | succ k => unfold lexF; rw [if_neg (by omega)]
theorem Lx.blank {s : ByteArray} {i : Nat} {l : List Tok} {r : LL} (hi : i < s.size) (hb : byteAt s i = 32 ∨ byteAt s i = 9 ∨ byteAt s i = 10) (h : Lx s (i + 1) l r) : Lx s i l r := by
  intro k hk
  obtain ⟨k, rfl⟩ : ∃ m, k = m + 1 := ⟨k - 1, by omega⟩
  unfold lexF
  rw [if_pos hi, if_pos hb]
  exact h k (by omega)
theorem Lx.tok {s : ByteArray} {i e : Nat} {l : List Tok} {r : LL} {t : Tk} (hi : i < s.size) (hb : NoBl s i) (hu : unit s i = .tok t e) (hl : l.length < 16384) (h : Lx s e (l ++ [t.at' (pos s i)]) r) : Lx s i l r := by
  intro k hk
  obtain ⟨k, rfl⟩ : ∃ m, k = m + 1 := ⟨k - 1, by omega⟩
  have he := (unit_end hi).2 t e hu
  unfold lexF
  rw [if_pos hi, if_neg hb, hu]
  simp only
  rw [if_neg (by omega)]
  exact h k (by omega)
theorem Lx.skip {s : ByteArray} {i e : Nat} {l : List Tok} {r : LL} (hi : i < s.size) (hb : NoBl s i) (hu : unit s i = .skip e) (h : Lx s e l r) : Lx s i l r := by
  intro k hk
  obtain ⟨k, rfl⟩ : ∃ m, k = m + 1 := ⟨k - 1, by omega⟩
  have he := (unit_end hi).1 e hu
  unfold lexF
  rw [if_pos hi, if_neg hb, hu]
  exact h k (by omega)
theorem Lx.lexP {s : ByteArray} {r : LL} (h : Lx s 0 [] r) (hz : s.size ≤ 65536) : lexP s = r := by
  unfold Go.Proofs.YtelichlplblboaaGreatDoor.lexP
  rw [if_neg (by omega)]
  exact h _ (by omega)
/-- Blanks and line feeds. -/
def Blk (l : List UInt8) : Prop := ∀ c ∈ l, c = 32 ∨ c = 10
theorem Blk.app {a b : List UInt8} (ha : Blk a) (hb : Blk b) : Blk (a ++ b) := fun c h => (List.mem_append.1 h).elim (ha c) (hb c)
theorem Blk.nil : Blk [] := fun c h => absurd h List.not_mem_nil
theorem Blk.reps {c : UInt8} (h : c = 32 ∨ c = 10) (n : Nat) : Blk (rp c n) := by
  induction n with
  | zero => intro d hd; cases hd
  | succ n ih =>
    intro d hd
    have e : rp c (n + 1) = c :: rp c n := rfl
    rw [e] at hd
    rcases List.mem_cons.1 hd with rfl | hd
    · exact h
    · exact ih d hd
theorem Lx.blanks {s : ByteArray} {l : List Tok} {r : LL} (b : List UInt8) : ∀ {i : Nat}, Blk b → Has s i b → Lx s (i + b.length) l r → Lx s i l r := by
  induction b with
  | nil => intro i _ _ h; exact h
  | cons c b ih =>
    intro i hb h hx
    refine Lx.blank h.lt ?_ (ih (fun d hd => hb d (List.mem_cons_of_mem _ hd)) h.tail (by rw [show i + 1 + b.length = i + (c :: b).length by rw [List.length_cons]; omega]; exact hx))
    rw [h.head]
    rcases hb c (List.mem_cons_self ..) with rfl | rfl
    · exact .inl rfl
    · exact .inr (.inr rfl)
theorem lexP_quote (t : ByteArray) (hz : t.size ≤ 200) : lexP ⟨(qtL 34 t.data.toList).toArray⟩ = .ok [⟨7, nil8, t, 0, false, 1, 1⟩] := by
  obtain ⟨hu, hb⟩ := unit_str (i := 0) hz (has_mk (qtL 34 t.data.toList))
  have hs : (⟨(qtL 34 t.data.toList).toArray⟩ : ByteArray).size = (qtL 34 t.data.toList).length := by rw [Lib.size_eq]
  have hl := qtL_len 34 t.data.toList
  rw [← Lib.size_eq] at hl
  refine Lx.lexP (Lx.tok ?_ hb hu (by simp) ?_) (by omega)
  · rw [hs]; unfold qtL qtB; simp
  · rw [Nat.zero_add, ← hs]; exact Lx.done (Nat.le_refl _)
theorem lexP_quoteChar (n : Int) (h0 : 0 ≤ n) (h1 : n ≤ 255) : lexP (qcB n) = .ok [⟨6, nil8, nil8, n, false, 1, 1⟩] := by
  unfold qcB
  rw [if_pos ⟨h0, h1⟩]
  obtain ⟨hu, hb⟩ := unit_chr (i := 0) (has_mk (qtL 39 [n.toNat.toUInt8]))
  have hs : (⟨(qtL 39 [n.toNat.toUInt8]).toArray⟩ : ByteArray).size = (qtL 39 [n.toNat.toUInt8]).length := by rw [Lib.size_eq]
  have hl := qtL_len 39 [n.toNat.toUInt8]
  have e1 : [n.toNat.toUInt8].length = 1 := rfl
  have e : ((n.toNat.toUInt8.toNat : Nat) : Int) = n := by
    have : n.toNat.toUInt8.toNat = n.toNat % 256 := by simp [Nat.toUInt8]
    omega
  rw [e] at hu
  refine Lx.lexP (Lx.tok ?_ hb hu (by simp) ?_) (by omega)
  · rw [hs]; unfold qtL qtB; simp
  · rw [Nat.zero_add, ← hs]; exact Lx.done (Nat.le_refl _)
/-- What stands between two tokens. -/
theorem sep_spec (s : WS) (line col : Int) : ∃ sep, (colS (feedS s line) col).out = s.out ++ sep ∧ Blk sep ∧ (s.first = false → sep ≠ []) := by
  have hf : ∃ a, (feedS s line).out = s.out ++ a ∧ Blk a ∧ ((feedS s line).first = false → s.first = false ∧ a = []) ∧ (s.first = false → (feedS s line).first = true → a ≠ []) := by
    unfold feedS
    split
    · rename_i h
      refine ⟨_, rfl, Blk.reps (.inr rfl) _, fun h => by simp at h, fun _ _ e => ?_⟩
      have := congrArg List.length e
      rw [rp_len] at this
      simp at this
      omega
    · exact ⟨[], by simp, Blk.nil, fun h => ⟨h, rfl⟩, fun h h2 => by rw [h] at h2; cases h2⟩
  obtain ⟨a, h1, h2, h3, h4⟩ := hf
  have hc : ∃ b, (colS (feedS s line) col).out = (feedS s line).out ++ b ∧ Blk b ∧ ((feedS s line).first = false → b ≠ []) := by
    generalize feedS s line = z
    unfold colS
    split
    · rename_i h
      refine ⟨_, rfl, Blk.reps (.inl rfl) _, fun _ e => ?_⟩
      have := congrArg List.length e
      rw [rp_len] at this
      simp at this
      omega
    split
    · rename_i h; exact ⟨[], by simp, Blk.nil, fun h' => by rw [h] at h'; cases h'⟩
    · exact ⟨[32], rfl, fun c h => by simp at h; exact .inl h, fun _ => by simp⟩
  obtain ⟨b, k1, k2, k3⟩ := hc
  refine ⟨a ++ b, by rw [k1, h1, List.append_assoc], h2.app k2, fun hs e => ?_⟩
  obtain ⟨ea, eb⟩ := List.append_eq_nil_iff.1 e
  cases hff : (feedS s line).first
  · exact k3 hff eb
  · exact h4 hs hff ea
theorem tokS_out (s : WS) (t : Tok) : ∃ sep, (tokS s t).out = s.out ++ sep ++ (txB t).data.toList ∧ Blk sep ∧ (s.first = false → sep ≠ []) := by
  obtain ⟨sep, h1, h2, h3⟩ := sep_spec s t.line t.col
  exact ⟨sep, by unfold tokS; simp only; rw [h1], h2, h3⟩
theorem renL_more {ts : List Tok} : ∀ {s r : WS}, renL s ts = some r → ∃ m, r.out = s.out ++ m := by
  induction ts with
  | nil => intro s r h; injection h with h; exact ⟨[], by rw [h]; simp⟩
  | cons t ts ih =>
    intro s r h
    unfold renL at h
    split at h
    · cases h
    · obtain ⟨m, hm⟩ := ih h
      obtain ⟨sep, h1, _, _⟩ := tokS_out s t
      exact ⟨sep ++ (txB t).data.toList ++ m, by rw [hm, h1]; simp⟩
theorem renL_len {ts : List Tok} : ∀ {s r : WS}, s.out.length ≤ 65536 → renL s ts = some r → r.out.length ≤ 65536 := by
  induction ts with
  | nil => intro s r hs h; injection h with h; rw [← h]; exact hs
  | cons t ts ih =>
    intro s r hs h
    unfold renL at h
    split at h
    · cases h
    · exact ih (by omega) h
/-- Behind a token: a blank, a line feed, or the end. -/
theorem ren_stp {ts : List Tok} {s r : WS} {src : ByteArray} (hf : s.first = false) (h : renL s ts = some r) (hs : Has src 0 r.out) (hz : src.size = r.out.length) : Stp src s.out.length := by
  cases ts with
  | nil => injection h with h; rw [h]; exact .inr (.inr (by omega))
  | cons t ts =>
    unfold renL at h
    split at h
    · cases h
    obtain ⟨m, hm⟩ := renL_more h
    obtain ⟨sep, h1, h2, h3⟩ := tokS_out s t
    rw [hm, h1, List.append_assoc, List.append_assoc] at hs
    have hx := hs.right
    rw [Nat.zero_add] at hx
    cases sep with
    | nil => exact absurd rfl (h3 hf)
    | cons c sep =>
      have hb := (hx.left).head
      rcases h2 c (List.mem_cons_self ..) with rfl | rfl
      · exact .inl hb
      · exact .inr (.inl hb)
theorem sameT_at (t : Tok) (q : At) : sameT (Tk.at' ⟨t.op, t.qual, t.text, t.n⟩ q) t = true := by simp [sameT, Tk.at']
theorem sameL_cons {a b : List Tok} {x y : Tok} (h : sameT x y = true) (k : sameL a b = true) : sameL (x :: a) (y :: b) = true := by
  unfold sameL at k ⊢
  rw [Bool.and_eq_true] at k ⊢
  refine ⟨by simpa using k.1, ?_⟩
  rw [List.zipWith_cons_cons, List.all_cons, h]
  exact k.2
theorem ren_lex {src : ByteArray} (ts : List Tok) : ∀ {s r : WS} {l : List Tok}, renL s ts = some r → Has src 0 r.out → src.size = r.out.length → ts.all prT = true → (∀ t ∈ ts, t.n ≤ 9223372036854775807 ∧ (txB t).size ≠ 0) → l.length + ts.length ≤ 16384 →
    ∃ m, Lx src s.out.length l (.ok (l ++ m)) ∧ sameL m ts = true := by
  induction ts with
  | nil =>
    intro s r l h hs hz _ _ _
    injection h with h
    refine ⟨[], ?_, rfl⟩
    rw [List.append_nil]
    exact Lx.done (by rw [hz, ← h]; exact Nat.le_refl _)
  | cons t ts ih =>
    intro s r l h hs hz hp hn hl
    have h' := h
    unfold renL at h
    split at h
    · cases h
    rw [List.all_cons, Bool.and_eq_true] at hp
    rw [List.length_cons] at hl
    obtain ⟨sep, h1, h2, h3⟩ := tokS_out s t
    have hstp := ren_stp (s := tokS s t) rfl h hs hz
    obtain ⟨m', hm⟩ := renL_more h
    have hs' := hs
    rw [hm, h1, List.append_assoc, List.append_assoc] at hs'
    have hx := hs'.right
    rw [Nat.zero_add] at hx
    have hsep := hx.left
    have htx := hx.right.left
    have hlen : (tokS s t).out.length = s.out.length + sep.length + (txB t).size := by rw [h1, List.length_append, List.length_append, Lib.size_eq]
    rw [hlen] at hstp
    obtain ⟨hu, hb⟩ := unit_tok hp.1 (hn t (List.mem_cons_self ..)).1 htx hstp
    obtain ⟨m, k1, k2⟩ := ih (s := tokS s t) (l := l ++ [Tk.at' ⟨t.op, t.qual, t.text, t.n⟩ (pos src (s.out.length + sep.length))]) h hs hz hp.2 (fun u hu => hn u (List.mem_cons_of_mem _ hu)) (by rw [List.length_append, List.length_singleton]; omega)
    have hlt : s.out.length + sep.length < src.size := by
      have hne : (txB t).data.toList ≠ [] := by
        intro e
        have := (hn t (List.mem_cons_self ..)).2
        rw [Lib.size_eq, e] at this
        exact this rfl
      have := htx.le hne
      have h0 := (hn t (List.mem_cons_self ..)).2
      rw [← Lib.size_eq] at this
      omega
    refine ⟨Tk.at' ⟨t.op, t.qual, t.text, t.n⟩ (pos src (s.out.length + sep.length)) :: m, ?_, ?_⟩
    · refine Lx.blanks sep h2 hsep (Lx.tok hlt hb hu (by omega) ?_)
      rw [← hlen]
      rw [List.append_assoc, List.singleton_append] at k1
      exact k1
    · have hst := sameT_at t (pos src (s.out.length + sep.length))
      refine sameL_cons hst k2
end Go.Proofs.YtelichlplblboaaGreatDoor
